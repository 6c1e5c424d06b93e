/- ExCheck: what these laws name of them. -/
import Derived.RangeFuncNested
import Derived.RangeFuncBound
import Derived.RangeFuncCalls
import Derived.RangeFuncLeaves
import Derived.Shelf.Abstract
import Derived.Shelf.RegionOpen
import Derived.OwnWalkIn
import Derived.TacticsInMore
import Derived.LoopNIn
import Derived.LoopIn
import Derived.Deep.DrawnRows
import Derived.LaidMore
import Derived.Test.YtjhhmdmmllblhaaGreatDoorKt03
import Derived.Test.YtjhhmdmmllblhaaGreatDoorKt04
namespace Go.Proofs.YtjhhmdmmllblhaaGreatDoor
set_option linter.unusedVariables false
namespace ExV
open Go.RowKit Go.Shelf
open ExM Kit ExL
set_option linter.unusedVariables false
attribute [local go_sem] Oper.semAt_some
theorem room_of_none {F:Fence} (hd:F.depth=none) (k:Nat):F.room k:=fun d h => by rw [hd] at h; cases h
theorem anyDepthR {F:Fence} (hd:F.depth=none) {m m':Nat} {P:Program} {l:Nat} {f:FuncId} {tmps:Array Value} {assign body:Code} {w:World} {R:Ending->World->Prop}
  (h:RoundIn F m P l f tmps assign body w R):RoundIn F m' P l f tmps assign body w R:=⟨h.1,fun c cs _ => h.2 c cs (room_of_none hd _)⟩
theorem anyDepth {F:Fence} (hd:F.depth=none) {m:Nat} (m':Nat) {P:Program} {l:Nat} {args:Array Value} {W:World} {R:Ending->World->Prop} (h:YieldAt F m P l args W R):YieldAt F m' P l args W R:=by
 obtain ⟨fn,tmps,assign,body,hy,hR⟩:=h
 exact ⟨fn,tmps,assign,body,hy,anyDepthR hd hR⟩
structure Al where
 d:Nd
 m:Nat
 A:Option Addr
 c:Nat
 hm:m<=maxLen
 hs:d.nm.size<=maxLen
def Al.nd (x:Al):Nd × Nat:=(x.d,x.m)
def encs (x:Al):Array Value:=#[.agg #[.int .i64 x.d.op,.int .i64 x.d.k,.int .i64 x.d.n,.string x.d.s,.string x.d.nm,.slice x.A x.m x.c]]
structure Kp (n₀ n₁:Nat) (W W':World):Prop where
 below:Below n₀ W W'
 cells:∀ b o,n₁<=b->W.heap[b]?=some o->o.isCells=true->W'.heap[b]?=some o
theorem Kp.refl (n₀ n₁:Nat) (W:World):Kp n₀ n₁ W W:=⟨Below.refl _ _,fun _ _ _ h _ => h⟩
theorem Kp.trans {n₀ n₁:Nat} {A B C:World} (h:Kp n₀ n₁ A B) (g:Kp n₀ n₁ B C):Kp n₀ n₁ A C:=⟨h.below.trans g.below,fun b o hb ho hc => g.cells b o hb (h.cells b o hb ho hc) hc⟩
theorem Kp.of_below {n₀ n₁:Nat} {A B:World} (h:Below A.heap.size A B) (hn:n₀<=A.heap.size):Kp n₀ n₁ A B :=
 ⟨h.mono hn,fun b o _ ho _ => by
  have hl:b < A.heap.size:=by
   rcases Nat.lt_or_ge b A.heap.size with hl | hl
   ·exact hl
   ·rw [Array.getElem?_eq_none hl] at ho; cases ho
  rw [h.block b hl]; exact ho⟩
theorem Kp.alloc {n₀ n₁:Nat} {A:World} (o:Obj) (hn:n₀<=A.heap.size):Kp n₀ n₁ A (A.alloc o):=Kp.of_below (b_new A o) hn
theorem kp_putObj {n₀ n₁:Nat} (W:World) (l:Nat) (o o':Obj) (hl:n₀<=l) (ho:W.heap[l]?=some o) (hc:o.isCells=false):Kp n₀ n₁ W (W.putObj l o'):=by
 have hlt:=(Array.getElem?_eq_some_iff.1 ho).1
 refine ⟨(Below.refl n₀ W).grown (grownBy_putObj' W l o') (by omega) (fun k e => by cases e; exact hl),fun b o2 _ hb h2 => ?_⟩
 have hne:b ≠ l:=by
  rintro rfl
  rw [ho] at hb; cases hb; rw [hc] at h2; cases h2
 rw [World.putObj_heap_other hne]; exact hb
theorem Kp.box {n₀ n₁:Nat} {W W':World} {cs:Array Value} {t:TypeId} (h:Kp n₀ n₁ (W.alloc (.cells cs t)) W') (hn:n₁<=W.heap.size) (i:Nat):W'.cell? ⟨W.heap.size,i,none⟩=cs[i]?:=by
 have h1:=h.cells W.heap.size (.cells cs t) hn (World.alloc_heap_new W _) rfl
 simp [World.cell?,h1]
def VOut (w0:World) (n₁:Nat) (J Jx:List Al->World->Prop) (pre:List Al) (P:List (Nd × Nat)) (W:World) (e:Ending) (W':World):Prop :=
 (e=.returned (.bool true)/\(∃ ys:List Al,ys.map Al.nd=P/\J (pre ++ ys) W')/\Kp w0.heap.size n₁ W W') ∨ (e=.returned (.bool false)/\∃ q:List Al,q.map Al.nd <+: P/\Jx (pre ++ q) W')
structure VInv (w0:World) (n₁:Nat) (J:List Al->World->Prop) (pre:List Al) (P:List (Nd × Nat)) (W:World) (ys:List Al) (wr:World):Prop where
 is:ys.map Al.nd=P
 j:J (pre ++ ys) wr
 kp:Kp w0.heap.size n₁ W wr
 below:Below w0.heap.size w0 wr
 le:n₁<=wr.heap.size
theorem VInv.step {w0:World} {n₁:Nat} {J:List Al->World->Prop} {pre:List Al} {d:Nd × Nat} {l:List Ex} {k:Nat} {W wr w2:World} {ys zs:List Al} {o:Obj} (h:VInv w0 n₁ J pre (d :: preL (l.take k)) W ys wr) (hk:k < l.length)
  (hz:zs.map Al.nd=l[k].pre) (hj:J (pre ++ ys ++ zs) w2) (hp:Kp w0.heap.size n₁ (wr.alloc o) w2):VInv w0 n₁ J pre (d :: preL (l.take (k + 1))) W (ys ++ zs) w2:=by
 have hp2:Kp w0.heap.size n₁ wr w2:=(Kp.alloc o h.below.size).trans hp
 exact ⟨by rw [List.map_append,h.is,hz,preL_at l k hk]; rfl,by rw [← List.append_assoc]; exact hj,h.kp.trans hp2,h.below.trans hp2.below,by have:=hp2.below.size; have:=h.le; omega⟩
theorem pre_prefix (l:List Ex) (k:Nat) (hk:k < l.length) {q:List (Nd × Nat)} (h:q <+: l[k].pre):preL (l.take k) ++ q <+: preL l:=by
 have e:preL l=preL (l.take (k + 1)) ++ preL (l.drop (k + 1)):=by rw [← preL_append,List.take_append_drop]
 rw [e,preL_at l k hk]
 obtain ⟨r,hr⟩:=h
 exact ⟨r ++ preL (l.drop (k + 1)),by rw [← hr]; simp [List.append_assoc]⟩
set_option maxRecDepth 100000 in
set_option maxHeartbeats 2000000 in
theorem visit_in (F:Fence) (hd:F.depth=none) (hv:F.fn 114) (hro:F.round=none) (l n₁ N:Nat) (w0:World) (J Jx:List Al->World->Prop)
  (hJ:∀ s W o,J s W->J s (W.alloc o))
  (hY:∀ m pre (x:Al) W,J pre W->pre.length < N->YieldAt F m Tryz.prog l (encs x) W fun e W' => (e=.returned (.bool true)/\J (pre ++ [x]) W'/\Kp w0.heap.size n₁ W W') ∨ (e=.returned (.bool false)/\Jx (pre ++ [x]) W')) :
  ∀ (x:Ex) (d:Nd) (A:Option Addr) (m c:Nat) (n:Nat) (pre:List Al) (W:World),Is w0 x d A m->Below w0.heap.size w0 W->n₁<=W.heap.size->J pre W->pre.length + x.nodes<=N →
   CallsIn F n Tryz.prog 114 #[.agg #[.int .i64 d.op,.int .i64 d.k,.int .i64 d.n,.string d.s,.string d.nm,.slice A m c],.func (.yield l) #[] #[]] W (VOut w0 n₁ J Jx pre x.pre W):=by
 refine Ex.ind fun d l' ih => ?_
 intro d' A m c n pre W his hB hn hj hN
 rw [is_mk] at his
 obtain ⟨rfl,rfl,⟨hm,hs1,hs2⟩,his⟩:=his
 have hdd:∀ k:Nat,(F.depth.isSome=true->1<=k):=fun k h => by rw [hd] at h; cases h
 rw [nodes_mk] at hN
 rw [pre_mk]
 have hj1:=hJ _ _ (.cells #[.int .i64 d'.op,.int .i64 d'.k,.int .i64 d'.n,.string d'.s,.string d'.nm,.slice A l'.length c] 45) hj
 have hy1:=hY (n - 1) pre ⟨d',l'.length,A,c,hm,hs2⟩ _ hj1 (by omega)
 obtain ⟨fn,tmps,assign,body,hy,hR⟩:=hy1
 unfold encs at hy
 dsimp only at hy
 have HS:=Lib.hid his
 have HI:=Lib.hid ih
 have HJ:=Lib.hid hj
 have HR:=Lib.hid hR
 clear his ih hj hj1 hR
 unfold maxLen at hm
 refine callsIn_of_wp Tryz.func114 rfl hv ?_ hro
 simp only [Tryz.ntmps114,List.size_toArray,List.length_cons,List.length_nil,Nat.reduceAdd,Nat.reduceSub,Array.replicate_succ,Array.replicate_zero,List.push_toArray,List.append_toArray,List.nil_append,List.cons_append]
 gi_wp2_with fail
 refine HR.out.mono ?_; clear HR hy; rintro e W1 (⟨rfl,hj1,hk1⟩ | ⟨rfl,hx1⟩)
 ·have hc5:W1.cell? ⟨W.heap.size,5,none⟩=some (.slice A l'.length c):=by rw [hk1.box hn]; rfl
  have hkW:Kp w0.heap.size n₁ W W1:=(Kp.alloc _ hB.size).trans hk1
  have hI0:VInv w0 n₁ J pre ((d',l'.length) :: preL (l'.take 0)) W [⟨d',l'.length,A,c,hm,hs2⟩] W1:=⟨by simp [Al.nd,preL_nil],hj1,hkW,hB.trans hkW.below,by have:=hkW.below.size; omega⟩
  have HI0:=Lib.hid hI0
  clear hI0 hkW hk1 hj1
  gi_wp2_with fail
  gi_loopw [14] (fun i wr => ∃ (k:Nat) (ys:List Al),i=.int .i64 k/\k<=l'.length/\VInv w0 n₁ J pre ((d',l'.length) :: preL (l'.take k)) W ys wr) (fun i _ => l'.length - (intOf i).toNat)
  case atStart => exact ⟨0,_,rfl,Nat.zero_le _,HI0.out⟩
  case round =>
   obtain ⟨k,ys,rfl,hk,hV⟩:=hrel
   have HV:=Lib.hid hV
   clear hV
   by_cases hlt:k < l'.length
   ·obtain ⟨a,d2,B,m2,c2,rfl,hat,hi⟩:=HS.out k hlt
    obtain ⟨h0,h1,h2,h3,h4,h5⟩:=hat.below HV.out.below
    have hVb:=HV.out.below
    have hVn:=HV.out.le
    have hcx:=HI.out _ (List.getElem_mem hlt) d2 B m2 c2 (n - 1) (pre ++ ys) (wr.alloc (.cells #[.int .i64 d2.op,.int .i64 d2.k,.int .i64 d2.n,.string d2.s,.string d2.nm,.slice B m2 c2] 45)) hi (hVb.trans ((b_new _ _).mono hVb.size)) (by simp; omega) (hJ _ _ _ HV.out.j) (by
     have e1:ys.length=((d',l'.length) :: preL (l'.take k)).length:=by rw [← HV.out.is,List.length_map]
     have e2:=nodesL_at l' k hlt
     have e3:=nodesL_take l' (k + 1)
     rw [List.length_append,e1,List.length_cons,preL_len]; omega)
    have HC:=Lib.hid hcx
    clear hcx hat hi hVb
    gi_wp2_with fail
    refine HC.out.mono ?_; rintro e w2 (⟨rfl,⟨zs,hz,hjz⟩,hkz⟩ | ⟨rfl,q,hq,hxq⟩)
    ·have hN:VInv w0 n₁ J pre ((d',l'.length) :: preL (l'.take (k + 1))) W (ys ++ zs) w2:=HV.out.step hlt hz hjz hkz
     have HN:=Lib.hid hN
     clear hN hz hjz hkz
     gi_wp2_with fail
     go_roundw
     case rel => exact ⟨k + 1,_,by go_num,by omega,HN.out⟩
     case measure => simp [intOf]; omega
    ·have hO:VOut w0 n₁ J Jx pre ((d',l'.length) :: preL l') W (.returned (.bool false)) w2:=.inr ⟨rfl,ys ++ q,by
      rw [List.map_append,HV.out.is]
      exact (List.prefix_cons_inj _).2 (pre_prefix l' k hlt hq),by rw [← List.append_assoc]; exact hxq⟩
     have HO:=Lib.hid hO
     clear hO hq hxq
     gi_wp2_with fail
     go_ret
     exact HO.out
   ·have hkl:k=l'.length:=by omega
    have hO:VOut w0 n₁ J Jx pre ((d',l'.length) :: preL l') W (.returned (.bool true)) wr:=.inl ⟨rfl,⟨ys,by rw [HV.out.is,hkl,List.take_length],HV.out.j⟩,HV.out.kp⟩
    have HO:=Lib.hid hO
    clear hO hkl
    gi_wp2_with fail
    go_ret
    exact HO.out
 ·have hO:VOut w0 n₁ J Jx pre ((d',l'.length) :: preL l') W (.returned (.bool false)) W1:=.inr ⟨rfl,[⟨d',l'.length,A,c,hm,hs2⟩],(List.prefix_cons_inj _).2 List.nil_prefix,hx1⟩
  have HO:=Lib.hid hO
  clear hO hx1
  gi_wp2_with fail
  go_ret
  exact HO.out
def Box (w:World) (B:Nat) (d:Nd) (A:Option Addr) (m c:Nat):Prop:=w.heap[B]?=some (.cells #[.int .i64 d.op,.int .i64 d.k,.int .i64 d.n,.string d.s,.string d.nm,.slice A m c] 45 (0,0))
theorem Box.cells {w:World} {B:Nat} {d:Nd} {A:Option Addr} {m c:Nat} (h:Box w B d A m c):w.cell? ⟨B,0,none⟩=some (.int .i64 d.op)/\w.cell? ⟨B,1,none⟩=some (.int .i64 d.k)/\w.cell? ⟨B,2,none⟩=some (.int .i64 d.n)/\w.cell? ⟨B,3,none⟩=some (.string d.s)/\w.cell? ⟨B,4,none⟩=some (.string d.nm)/\w.cell? ⟨B,5,none⟩=some (.slice A m c):=by
 unfold Box at h
 refine ⟨?_,?_,?_,?_,?_,?_⟩ <;> simp [World.cell?,h]
theorem Box.lt {w:World} {B:Nat} {d:Nd} {A:Option Addr} {m c:Nat} (h:Box w B d A m c):B < w.heap.size:=(Array.getElem?_eq_some_iff.1 h).1
theorem Box.below {w w':World} {B:Nat} {d:Nd} {A:Option Addr} {m c:Nat} (h:Box w B d A m c) (hb:Below w.heap.size w w'):Box w' B d A m c:=(hb.block B h.lt).trans h
theorem Box.far {W:World} {B:Nat} {d:Nd} {A:Option Addr} {m c:Nat} (h:Box W B d A m c) {p:Addr} (hp:B ≠ p.block) (v:Value):Box (W.setCell p v) B d A m c:=(Below.heap_setCell W p v B hp).trans h
theorem Box.new (w:World) (d:Nd) (A:Option Addr) (m c:Nat):Box (w.alloc (.cells #[.int .i64 d.op,.int .i64 d.k,.int .i64 d.n,.string d.s,.string d.nm,.slice A m c] 45)) w.heap.size d A m c:=World.alloc_heap_new w _
set_option maxRecDepth 100000 in
set_option maxHeartbeats 1000000 in
theorem nodes_stops (F:Fence) (hd:F.depth=none) (hn1:F.fn 113) (hv:F.fn 114) (hro:F.round=none) (n Bx:Nat) (w0 w:World) (x:Ex) (d:Nd) (A:Option Addr) (m c:Nat)
  (his:Is w0 x d A m) (hb:Below w0.heap.size w0 w) (hbox:Box w Bx d A m c) :
  SeqStopsK F n Tryz.prog 113 #[.pointer (some ⟨Bx,0,none⟩)] encs (Kp w0.heap.size w.heap.size) (fun ys => ys.map Al.nd=x.pre) (fun q => q.map Al.nd <+: x.pre) x.nodes w:=by
 intro l J Jx W hW hJ hJx hY h0
 have hdd:∀ k:Nat,(F.depth.isSome=true->1<=k):=fun k h => by rw [hd] at h; cases h
 obtain ⟨b0,b1,b2,b3,b4,b5⟩:=(hbox.below hW).cells
 have hp:=visit_in F hd hv hro l w.heap.size x.nodes w0 J Jx (fun s W o hs => hJ s W _ none hs (World.grownBy_alloc W o none) (fun r e => by cases e)) (fun m pre x W hj hl => anyDepth hd m (hY pre x W hj hl)) x d A m c (n - 1) [] W his (hb.trans (hW.mono hb.size)) hW.size h0 (by simp)
 have HP:=Lib.hid hp
 clear hp his hb hbox hW hJ hJx hY h0
 refine callsIn_of_wp Tryz.func113 rfl hn1 ?_ hro
 simp only [Tryz.ntmps113,List.size_toArray,List.length_cons,List.length_nil,Nat.reduceAdd,Nat.reduceSub,Array.replicate_succ,Array.replicate_zero,List.push_toArray,List.append_toArray,List.nil_append,List.cons_append]
 gi_wp2_with fail
 refine HP.out.mono ?_; rintro e w2 (⟨rfl,⟨zs,hz,hjz⟩,hkz⟩ | ⟨rfl,q,hq,hxq⟩)
 ·rw [List.nil_append] at hjz
  have HO:=Lib.hid (And.intro hz hjz)
  clear hz hjz hkz
  gi_wp2_with fail
  go_end0
  exact ⟨⟨_,rfl⟩,.inl ⟨zs,HO.out⟩⟩
 ·rw [List.nil_append] at hxq
  have HO:=Lib.hid (And.intro hq hxq)
  clear hq hxq
  gi_wp2_with fail
  go_end0
  exact ⟨⟨_,rfl⟩,.inr ⟨q,HO.out⟩⟩
theorem nodes_in (F:Fence) (n:Nat) (hf:F.fn 85) (hro:F.round=none) (d:Nd) (A:Option Addr) (m c:Nat) (w:World) :
  CallsIn F n Tryz.prog 85 #[.agg #[.int .i64 d.op,.int .i64 d.k,.int .i64 d.n,.string d.s,.string d.nm,.slice A m c]] w fun e w' => e=.returned (.func (.func 113) #[] #[.pointer (some ⟨w.heap.size,0,none⟩)])/\w'=w.alloc (.cells #[.int .i64 d.op,.int .i64 d.k,.int .i64 d.n,.string d.s,.string d.nm,.slice A m c] 45):=by
 refine callsIn_of_wp Tryz.func85 rfl hf ?_ hro
 simp only [Tryz.ntmps85,List.size_toArray,List.length_cons,List.length_nil,Nat.reduceAdd,Nat.reduceSub,Array.replicate_succ,Array.replicate_zero,List.push_toArray,List.append_toArray,List.nil_append,List.cons_append]
 gi_wp2
 go_ret
 exact ⟨rfl,rfl⟩
end ExV
namespace ExN
open Go.RowKit
open ValM LexM ExM Kit ExL
set_option linter.unusedVariables false
theorem nmB_iff (l:List UInt8):nmB l=decide (LexB.nameE l=0):=by
 unfold nmB LexB.nameE
 by_cases h1:l=[] ∨ 10 < l.length
 ·rw [if_pos h1]
  rcases h1 with h | h
  ·subst h; rfl
  ·rw [decide_eq_false (show ¬ l.length<=10 by omega)]; simp
 ·rw [if_neg h1]
  have h2:l.isEmpty=false:=by cases l; exact absurd (.inl rfl) h1; rfl
  have h3:l.length<=10:=by
   rcases Nat.lt_or_ge 10 l.length with g | g
   ·exact absurd (.inr g) h1
   ·exact g
  rw [h2,decide_eq_true h3]
  cases nameB l <;> cases keyB l <;> rfl
theorem rightV_other (op k n:Int) (s nm:ByteArray) (A:Option Addr) (m c:Nat) (w:World) (h1:op ≠ 1) :
  Calls Tryz.prog 115 #[.agg #[.int .i64 op,.int .i64 k,.int .i64 n,.string s,.string nm,.slice A m c]] w fun e w' => e=.returned (.bool (vOk ⟨op,k,n,s,nm⟩))/\Below w.heap.size w w':=by
 have e:vOk ⟨op,k,n,s,nm⟩=(decide (k=0) && decide (n=0) && s.data.toList.isEmpty):=by unfold vOk; rw [if_neg h1]
 rw [e]
 have t1:(op != 1)=true:=bne_iff_ne.2 h1
 clear e h1
 go_enter Tryz.func115,Tryz.ntmps115
 go_wp2_with fail
 all_goals go_ret
 all_goals refine ⟨?_,b_new _ _⟩
 all_goals simp_all [ByteArray.toList_eq]
theorem rightV_const (k n:Int) (s nm:ByteArray) (A:Option Addr) (m c:Nat) (w:World) :
  Calls Tryz.prog 115 #[.agg #[.int .i64 1,.int .i64 k,.int .i64 n,.string s,.string nm,.slice A m c]] w fun e w' => e=.returned (.bool (vOk ⟨1,k,n,s,nm⟩))/\Below w.heap.size w w':=by
 obtain ⟨b,hb⟩:∃ b,knownB k n s.data.toList=b:=⟨_,rfl⟩
 have e:vOk ⟨1,k,n,s,nm⟩=(b && !(decide (k=1) && decide (n < 0))):=by unfold vOk; rw [if_pos rfl,← hb]
 rw [e]
 have hc:=fun W => Val.known_any k n s W
 rw [hb] at hc
 have HC:=Lib.hid hc
 clear hc hb e
 cases b
 ·go_enter Tryz.func115,Tryz.ntmps115
  go_wp2_with fail
  refine (HC.out _).mono ?_; rintro e w2 ⟨rfl,hb⟩
  go_wp2_with fail
  go_ret
  exact ⟨rfl,b_then hb⟩
 ·by_cases hk:k=1
  ·subst hk
   go_enter Tryz.func115,Tryz.ntmps115
   go_wp2_with fail
   refine (HC.out _).mono ?_; rintro e w2 ⟨rfl,hb⟩
   obtain ⟨c1,c2⟩:=bcell hb
   go_wp2_with fail
   go_ret
   exact ⟨by simp,b_then hb⟩
  ·have t1:(k == 1)=false:=beq_eq_false_iff_ne.2 hk
   have t2:decide (k=1)=false:=decide_eq_false hk
   rw [t2]
   clear t2 hk
   go_enter Tryz.func115,Tryz.ntmps115
   go_wp2_with fail
   refine (HC.out _).mono ?_; rintro e w2 ⟨rfl,hb⟩
   obtain ⟨c1,c2⟩:=bcell hb
   go_wp2_with fail
   go_ret
   exact ⟨by simp,b_then hb⟩
theorem rightV_any (op k n:Int) (s nm:ByteArray) (A:Option Addr) (m c:Nat) (w:World) :
  Calls Tryz.prog 115 #[.agg #[.int .i64 op,.int .i64 k,.int .i64 n,.string s,.string nm,.slice A m c]] w fun e w' => e=.returned (.bool (vOk ⟨op,k,n,s,nm⟩))/\Below w.heap.size w w':=by
 by_cases h:op=1
 ·subst h; exact rightV_const k n s nm A m c w
 ·exact rightV_other op k n s nm A m c w h
theorem rightName_any (op k n:Int) (s nm:ByteArray) (A:Option Addr) (m c:Nat) (w:World) (hs:nm.size<=maxLen) :
  Calls Tryz.prog 116 #[.agg #[.int .i64 op,.int .i64 k,.int .i64 n,.string s,.string nm,.slice A m c]] w fun e w' => e=.returned (.bool (nmOk ⟨op,k,n,s,nm⟩))/\Below w.heap.size w w':=by
 by_cases h:op=2
 ·subst h
  have e:nmOk ⟨2,k,n,s,nm⟩=decide (LexB.nameE nm.data.toList=0):=by unfold nmOk; rw [if_pos rfl,nmB_iff]
  rw [e]
  obtain ⟨q,hq⟩:∃ q,LexB.nameE nm.data.toList=q:=⟨_,rfl⟩
  have hc:=fun W => LexB.name_any nm W hs
  rw [hq] at hc ⊢
  have HC:=Lib.hid hc
  clear hc hq e
  go_enter Tryz.func116,Tryz.ntmps116
  go_wp2_with fail
  refine (HC.out _).mono ?_; rintro e w2 ⟨rfl,rfl⟩
  go_wp2_with fail
  go_ret
  exact ⟨ret_bool (by rfl),b_new _ _⟩
 ·have e:nmOk ⟨op,k,n,s,nm⟩=nm.data.toList.isEmpty:=by unfold nmOk; rw [if_neg h]
  rw [e]
  have t1:(op != 2)=true:=bne_iff_ne.2 h
  clear h e
  go_enter Tryz.func116,Tryz.ntmps116
  go_wp2_with fail
  go_ret
  exact ⟨ret_bool (by rw [ByteArray.toList_eq]),b_new _ _⟩
theorem var_below {w w':World} {n:String} {cs:Array Value} (h:w.var? Tryz.prog n=some cs) (hb:Below w.heap.size w w'):w'.var? Tryz.prog n=some cs:=by
 have hg:∃ g,Tryz.prog.globalNamed n=some g/\g < w.heap.size:=by
  unfold World.var? at h
  cases hg:Tryz.prog.globalNamed n with
  | none => simp [hg] at h
  | some g =>
   refine ⟨g,rfl,?_⟩
   rcases Nat.lt_or_ge g w.heap.size with hl | hl
   ·exact hl
   ·simp [hg,Array.getElem?_eq_none hl] at h
 obtain ⟨g,hg,hl⟩:=hg
 exact var?_below hb hg hl h
def Tab (w : World) : Prop := NotTab.Is Tryz.prog w "lychway/expr.notations" NotTab.rows
theorem Tab.below {w w':World} (h:Tab w) (hb:Below w.heap.size w w'):Tab w':=var_below h hb
theorem Tab.alloc {w:World} (h:Tab w) (o:Obj):Tab (w.alloc o):=h.below (b_new w o)
def rw_ (k:Nat):NotTab.Rw:=NotTab.rows.getD k ([],0,0)
theorem rw_at (k:Nat) (h:k < 19):NotTab.rows[k]?=some (rw_ k):=by
 unfold rw_
 rw [List.getD,List.getElem?_eq_getElem (show k < NotTab.rows.length from h)]; rfl
theorem Tab.cells {w:World} (h:Tab w) (k:Nat) (hk:k < 19):w.cell? ⟨3,k * 3,none⟩=some (.string ⟨(rw_ k).1.toArray⟩)/\w.cell? ⟨3,k * 3 + 1,none⟩=some (.int .i64 (rw_ k).2.1)/\w.cell? ⟨3,k * 3 + 2,none⟩=some (.int .i64 (rw_ k).2.2) :=
 NotTab.Is.cell h (g:=3) (by kernel_rfl) k _ (rw_at k hk)
theorem rw_args (k:Nat) (h0:1<=k) (h:k < 19):(rw_ k).2.2=(arity (k:Int):Int):=by
 obtain rfl | rfl | rfl | rfl | rfl | rfl | rfl | rfl | rfl | rfl | rfl | rfl | rfl | rfl | rfl | rfl | rfl | rfl:k=1 ∨ k=2 ∨ k=3 ∨ k=4 ∨ k=5 ∨ k=6 ∨ k=7 ∨ k=8 ∨ k=9 ∨ k=10 ∨ k=11 ∨ k=12 ∨ k=13 ∨ k=14 ∨ k=15 ∨ k=16 ∨ k=17 ∨ k=18:=by omega
 all_goals rfl
theorem node_out (op k n:Int) (s nm:ByteArray) (A:Option Addr) (m c:Nat) (w:World) (h:op < 1 ∨ 18 < op) :
  Calls Tryz.prog 87 #[.agg #[.int .i64 op,.int .i64 k,.int .i64 n,.string s,.string nm,.slice A m c]] w fun e w' => e=.returned (.int .i64 2)/\Below w.heap.size w w':=by
 rcases h with h | h
 ·have h1:decide (op < 1)=true:=decide_eq_true h
  go_enter Tryz.func87,Tryz.ntmps87
  go_wp2_with fail
  go_ret
  exact ⟨rfl,b_new _ _⟩
 ·have h1:¬ op < 1:=by omega
  have h2:19<=op:=by omega
  go_enter Tryz.func87,Tryz.ntmps87
  go_wp2_with fail
  go_ret
  exact ⟨rfl,b_new _ _⟩
set_option maxHeartbeats 6000000 in
theorem node_in (j : Nat) (k n : Int) (s nm : ByteArray) (A : Option Addr) (m c : Nat) (w : World) (h0 : 1 ≤ j) (h1 : j ≤ 18) (hm : m ≤ maxLen) (hs : nm.size ≤ maxLen) (hT : Tab w) :
    Calls Tryz.prog 87 #[.agg #[.int .i64 (j : Int), .int .i64 k, .int .i64 n, .string s, .string nm, .slice A m c]] w fun e w' => e = .returned (.int .i64 (nodeE ⟨(j : Int), k, n, s, nm⟩ m)) ∧ Below w.heap.size w w' := by
  have e : nodeE ⟨(j : Int), k, n, s, nm⟩ m = if m = arity (j : Int) ∧ vOk ⟨(j : Int), k, n, s, nm⟩ = true ∧ nmOk ⟨(j : Int), k, n, s, nm⟩ = true then 0 else 3 := by unfold nodeE; rw [if_neg]; show ¬ ((j : Int) < 1 ∨ 18 < (j : Int)); omega
  rw [e]
  have hcell := (hT.cells j (by omega)).2.2
  rw [rw_args j h0 (by omega)] at hcell
  have har : arity (j : Int) ≤ 3 := by unfold arity; repeat' split
                                       all_goals omega
  obtain ⟨q, hq⟩ : ∃ q, arity (j : Int) = q := ⟨_, rfl⟩
  obtain ⟨bv, hv⟩ : ∃ b, vOk ⟨(j : Int), k, n, s, nm⟩ = b := ⟨_, rfl⟩
  obtain ⟨bn, hn⟩ : ∃ b, nmOk ⟨(j : Int), k, n, s, nm⟩ = b := ⟨_, rfl⟩
  have c1 := fun W => rightV_any (j : Int) k n s nm A m c W
  have c2 := fun W => rightName_any (j : Int) k n s nm A m c W hs
  rw [hv] at c1 ⊢
  rw [hn] at c2 ⊢
  rw [hq] at hcell har ⊢
  obtain ⟨R, hR⟩ : ∃ R : Int, (if m = q ∧ bv = true ∧ bn = true then 0 else 3) = R := ⟨_, rfl⟩
  rw [hR]
  have C1 := Lib.hid c1
  have C2 := Lib.hid c2
  clear c1 c2 hv hn hq e hT
  have g1 : ¬ (j : Int) < 1 := by omega
  have g2 : ¬ (19 : Int) ≤ (j : Int) := by omega
  have g3 : (0 : Int) ≤ (j : Int) := by omega
  have g4 : (j : Int) < 19 := by omega
  unfold maxLen at hm
  have hc0 : (w.alloc (.cells #[.int .i64 (j : Int), .int .i64 k, .int .i64 n, .string s, .string nm, .slice A m c] 45)).cell? ⟨3, j * 3 + 2, none⟩ = some (.int .i64 (q : Int)) := by
    rw [World.cell?_alloc_lt _ _ _ (cell_lt' hcell)]; exact hcell
  clear hcell
  by_cases hmq : m = q
  · have t1 : ((m : Int) != (q : Int)) = false := by rw [hmq]; simp
    subst hmq
    cases bv
    · obtain rfl : R = 3 := by rw [← hR, if_neg (by simp)]
      clear hR
      go_enter Tryz.func87, Tryz.ntmps87
      go_wp2_with fail
      go_region_with (go_at_call 115; refine (C1.out _).mono ?_; rintro e w1 ⟨rfl, hb1⟩; obtain ⟨c1, d1⟩ := bcell hb1)
      all_goals
        go_wp2_with fail
        go_ret
        refine ⟨rfl, ?_⟩
        clear C2 C1 hc0 c1 d1 h0 h1 hm hs g3 g4 har
        first | exact b_then hb1 | exact b_thenD hb1 | exact b_drew (b_thenD hb1)
    · cases bn
      · obtain rfl : R = 3 := by rw [← hR, if_neg (by simp)]
        clear hR
        go_enter Tryz.func87, Tryz.ntmps87
        go_wp2_with fail
        go_region_with (first | (go_at_call 115; refine (C1.out _).mono ?_; rintro e w1 ⟨rfl, hb1⟩; obtain ⟨c1, d1⟩ := bcell hb1; have z1 := zlt hb1) | (go_at_call 116; refine (C2.out _).mono ?_; rintro e w2 ⟨rfl, hb2⟩; obtain ⟨c2, d2⟩ := bcell hb2))
        all_goals
          go_wp2_with fail
          go_ret
          refine ⟨rfl, ?_⟩
          clear C2 C1 hc0 c1 d1 c2 d2 z1 h0 h1 hm hs g3 g4 har
          first | exact b_trans (b_thenD hb1) hb2 | exact b_trans (b_thenD hb1) (b_undrew hb2)
      · obtain rfl : R = 0 := by rw [← hR, if_pos (by simp)]
        clear hR
        go_enter Tryz.func87, Tryz.ntmps87
        go_wp2_with fail
        go_region_with (first | (go_at_call 115; refine (C1.out _).mono ?_; rintro e w1 ⟨rfl, hb1⟩; obtain ⟨c1, d1⟩ := bcell hb1; have z1 := zlt hb1) | (go_at_call 116; refine (C2.out _).mono ?_; rintro e w2 ⟨rfl, hb2⟩; obtain ⟨c2, d2⟩ := bcell hb2))
        all_goals
          go_wp2_with fail
          go_ret
          refine ⟨rfl, ?_⟩
          clear C2 C1 hc0 c1 d1 c2 d2 z1 h0 h1 hm hs g3 g4 har
          first | exact b_trans (b_thenD hb1) hb2 | exact b_trans (b_thenD hb1) (b_undrew hb2)
  · have t1 : ((m : Int) != (q : Int)) = true := bne_iff_ne.2 (by omega)
    obtain rfl : R = 3 := by rw [← hR, if_neg (fun g => hmq g.1)]
    clear hR
    go_enter Tryz.func87, Tryz.ntmps87
    go_wp2_with fail
    go_quiet (fail)
    go_wp2_with fail
    go_ret
    exact ⟨rfl, b_drewN (b_new _ _) _⟩
theorem node_any (op k n:Int) (s nm:ByteArray) (A:Option Addr) (m c:Nat) (w:World) (hm:m<=maxLen) (hs:nm.size<=maxLen) (hT:Tab w) :
  Calls Tryz.prog 87 #[.agg #[.int .i64 op,.int .i64 k,.int .i64 n,.string s,.string nm,.slice A m c]] w fun e w' => e=.returned (.int .i64 (nodeE ⟨op,k,n,s,nm⟩ m))/\Below w.heap.size w w':=by
 by_cases h:op < 1 ∨ 18 < op
 ·have e:nodeE ⟨op,k,n,s,nm⟩ m=2:=by unfold nodeE; rw [if_pos h]
  rw [e]; exact node_out op k n s nm A m c w h
 ·obtain ⟨j,rfl⟩:∃ j:Nat,op=j:=⟨op.toNat,by omega⟩
  exact node_in j k n s nm A m c w (by omega) (by omega) hm hs hT
end ExN
namespace ExC
open Go.RowKit Go.Shelf
open ExM Kit ExL ExN ExV
set_option linter.unusedVariables false
attribute [local go_sem] Oper.semAt_some
theorem Kp.setCell {n₀ n₁:Nat} (W:World) {p:Addr} (h0:n₀<=p.block) (h1:p.block < n₁) (v:Value):Kp n₀ n₁ W (W.setCell p v) :=
 ⟨(Below.refl n₀ W).setCell h0 v,fun b o hb ho _ => by rw [Below.heap_setCell W p v b (by omega)]; exact ho⟩
theorem box_own {β:Type} (B:Nat) (d:Nd) (A:Option Addr) (m c:Nat) (X:Nat):OwnFrom X (fun (_:β) W => Box W B d A m c):=by
 intro s W W' row h hg hr
 unfold Box at h ⊢
 rw [hg.block B (Array.getElem?_eq_some_iff.1 h).1 (fun e => ?_)]
 ·exact h
 ·obtain ⟨_,o,ho,hc⟩:=hr _ e.symm
  rw [h] at ho; cases ho; cases hc
theorem def_own {β:Type} (D X:Nat) (h:D < X) (o:Obj):OwnFrom X (fun (_:β) W => W.heap[D]?=some o):=by
 intro s W W' row hs hg hr
 rw [hg.block D (Array.getElem?_eq_some_iff.1 hs).1 (fun e => ?_)]
 ·exact hs
 ·have:=(hr _ e.symm).1; omega
theorem firstE_prefix {q p:List (Nd × Nat)} (h:q <+: p) (hq:firstE q ≠ 0):firstE p=firstE q:=by
 obtain ⟨r,rfl⟩:=h
 rw [firstE_append,if_neg hq]
theorem firstE_snoc (q:List (Nd × Nat)) (x:Nd × Nat) (h:firstE q=0):firstE (q ++ [x])=nodeE x.1 x.2:=by
 rw [firstE_append,if_pos h]
 obtain ⟨d,m⟩:=x
 rw [firstE_cons]
 by_cases h:nodeE d m=0
 ·rw [if_pos h,h]; rfl
 ·rw [if_neg h]
theorem keeps_below {W W':World} (h:Below W.heap.size W W') (B:Nat):KeepsFrom B W W':=⟨h.size,fun k o _ hk _ => (h.block k (Array.getElem?_eq_some_iff.1 hk).1).trans hk⟩
def I1 (w:World) (d:Nd) (A:Option Addr) (m c:Nat) (pre:List Al) (W:World):Prop :=
 ((((pre.length<=60/\Boxed W (w.heap.size + 1 + 1) 3 (.int .i64 (pre.length:Int)))/\Boxed W (w.heap.size + 1) 23 (.int .i64 0))/\Box W w.heap.size d A m c)/\Below w.heap.size w W)
set_option maxRecDepth 100000 in
set_option maxHeartbeats 1000000 in
theorem check_any (x:Ex) (d:Nd) (A:Option Addr) (m c:Nat) (w:World) (his:Is w x d A m) (hT:Tab w) :
  Calls Tryz.prog 53 #[.agg #[.int .i64 d.op,.int .i64 d.k,.int .i64 d.n,.string d.s,.string d.nm,.slice A m c]] w fun e w' => e=.returned (.int .i64 x.checkE)/\Below w.heap.size w w':=by
 refine (callsIn_wide (n:=5)).1 ?_
 obtain ⟨R,hR⟩:∃ R,x.checkE=R:=⟨_,rfl⟩
 rw [hR]
 have HR:=Lib.hid hR
 have HIs:=Lib.hid his
 have HT:=Lib.hid hT
 clear his hT hR
 refine callsIn_of_wp_marks Tryz.func53 rfl trivial ?_ rfl
 simp only [Tryz.ntmps53,List.size_toArray,List.length_cons,List.length_nil,Nat.reduceAdd,Nat.reduceSub,Array.replicate_succ,Array.replicate_zero,List.push_toArray,List.append_toArray,List.nil_append,List.cons_append]
 gi_wp2_with (refine ⟨trivial,?_⟩; gi_at_call 85; refine (nodes_in Fence.wide _ trivial rfl d A m c _).mono ?_; rintro e w' ⟨rfl,rfl⟩)
 obtain ⟨W0,hW0⟩:∃ W0,((((w.alloc (.cells #[.int .i64 d.op,.int .i64 d.k,.int .i64 d.n,.string d.s,.string d.nm,.slice A m c] 45)).alloc (.cells #[.int .i64 0] 23)).alloc (.cells #[.int .i64 0] 3)).alloc (.cells #[.int .i64 d.op,.int .i64 d.k,.int .i64 d.n,.string d.s,.string d.nm,.slice A m c] 45))=W0:=⟨_,rfl⟩
 rw [hW0]
 have hsz:W0.heap.size=w.heap.size + 4:=by rw [← hW0]; simp
 have hB0:Below w.heap.size w W0:=by rw [← hW0]; exact b_more (b_more (b_more (b_new _ _) _) _) _
 have hb0:Box W0 w.heap.size d A m c:=by rw [← hW0]; exact (((Box.new w d A m c).below (b_new _ _)).below (b_new _ _)).below (b_new _ _)
 have hb1:Boxed W0 (w.heap.size + 1) 23 (.int .i64 0):=by
  rw [← hW0]; have:=Boxed.new (w.alloc (.cells #[.int .i64 d.op,.int .i64 d.k,.int .i64 d.n,.string d.s,.string d.nm,.slice A m c] 45)) 23 (.int .i64 0)
  rw [World.size_alloc] at this; exact (this.alloc _).alloc _
 have hb2:Boxed W0 (w.heap.size + 1 + 1) 3 (.int .i64 0):=by
  rw [← hW0]; have:=Boxed.new ((w.alloc (.cells #[.int .i64 d.op,.int .i64 d.k,.int .i64 d.n,.string d.s,.string d.nm,.slice A m c] 45)).alloc (.cells #[.int .i64 0] 23)) 3 (.int .i64 0)
  rw [World.size_alloc,World.size_alloc] at this; exact this.alloc _
 have hb3:Box W0 (w.heap.size + 1 + 1 + 1) d A m c:=by
  rw [← hW0]; have:=Box.new (((w.alloc (.cells #[.int .i64 d.op,.int .i64 d.k,.int .i64 d.n,.string d.s,.string d.nm,.slice A m c] 45)).alloc (.cells #[.int .i64 0] 23)).alloc (.cells #[.int .i64 0] 3)) d A m c
  simp only [World.size_alloc] at this; exact this
 clear hW0
 have hsz1:w.heap.size + 4<=W0.heap.size:=by omega
 have hsz2:W0.heap.size<=w.heap.size + 4:=by omega
 clear hsz
 refine wpIn_rangeFunc_ownF rfl (by decide) (gf:=113) (lb:=#[.pointer (some ⟨w.heap.size + 1 + 1 + 1,0,none⟩)]) rfl trivial (enters_of Tryz.func113 (by kernel_rfl) rfl)
  (nodes_stops Fence.wide rfl trivial trivial rfl _ (w.heap.size + 1 + 1 + 1) w W0 x d A m c HIs.out hB0 hb3) Kp.trans (fun W l o o' hl ho hc _ => kp_putObj W l o o' (by omega) ho hc) (Below.refl _ _) (fun _ => rfl)
  (I1 w d A m c)
  (fun cd pre W => ((cd=.ret/\60 < pre.length)/\Boxed W (w.heap.size + 1) 23 (.int .i64 1))/\Below w.heap.size w W)
  (OwnFrom.and (OwnFrom.and (OwnFrom.and (OwnFrom.and (ownFrom_pure _ _) (Own.from (boxed_own _ _ _) _)) (Own.from (boxed_own _ _ (fun _ => _)) _)) (box_own _ _ _ _ _ _)) (ownFrom_below (Nat.le_refl _) (by omega)))
  (fun cd => OwnFrom.and (OwnFrom.and (ownFrom_pure _ _) (Own.from (boxed_own _ _ (fun _ => _)) _)) (ownFrom_below (Nat.le_refl _) (by omega)))
  ⟨⟨⟨⟨by simp,hb2⟩,hb1⟩,hb0⟩,hB0⟩
  (fun y => { tmps:=#[.agg #[.int .i64 d.op,.int .i64 d.k,.int .i64 d.n,.string d.s,.string d.nm,.slice A m c],.pointer (some ⟨w.heap.size,0,none⟩),.pointer (some ⟨w.heap.size + 1,0,none⟩),.pointer (some ⟨w.heap.size + 1 + 1,0,none⟩),undef,undef,undef,undef,.agg #[.int .i64 d.op,.int .i64 d.k,.int .i64 d.n,.string d.s,.string d.nm,.slice A m c],.func (.func 113) #[] #[.pointer (some ⟨w.heap.size + 1 + 1 + 1,0,none⟩)],.agg #[.int .i64 y.d.op,.int .i64 y.d.k,.int .i64 y.d.n,.string y.d.s,.string y.d.nm,.slice y.A y.m y.c],undef,undef,undef,undef,undef,undef,undef,undef,undef,undef,undef,undef,undef,undef,undef,undef,undef,undef,undef],defers:=[] }) ?assign ?body ?done ?stop
 case assign =>
  intro l y W K hK
  gi_wp2
  simpa [encs] using hK
 case body =>
  rintro l pre y W ⟨⟨⟨⟨hp,h2⟩,h1⟩,h0⟩,hB⟩ _
  have c2:=h2.cell
  have f2:=h2.frozen
  have c1:=h1.cell
  have f1:=h1.frozen
  by_cases hc:pre.length + 1<=60
  ·have t1:¬ (60:Int) < (pre.length:Int) + 1:=by omega
   gi_wp2
   exact ⟨KeepsOthers.setCell _ _ _,Kp.setCell W (p:=⟨w.heap.size + 1 + 1,0,none⟩) (by show w.heap.size<=w.heap.size + 1 + 1; omega) (by show w.heap.size + 1 + 1 < W0.heap.size; omega) _,
    ⟨⟨⟨⟨by simp; omega,by have:=h2.set (.int .i64 ((pre.length:Int) + 1)); simpa using this⟩,h1.other (by omega) _⟩,h0.far (by show w.heap.size ≠ w.heap.size + 1 + 1; omega) _⟩,hB.setCell (p:=⟨w.heap.size + 1 + 1,0,none⟩) (by show w.heap.size<=w.heap.size + 1 + 1; omega) _⟩⟩
  ·have t1:(60:Int) < (pre.length:Int) + 1:=by omega
   gi_wp2
   exact ⟨(KeepsOthers.setCell _ _ _).trans (KeepsOthers.setCell _ _ _),⟨⟨rfl,by simp; omega⟩,(h1.other (by omega) _).set _⟩,(hB.setCell (p:=⟨w.heap.size + 1 + 1,0,none⟩) (by show w.heap.size<=w.heap.size + 1 + 1; omega) _).setCell (p:=⟨w.heap.size + 1,0,none⟩) (by show w.heap.size<=w.heap.size + 1; omega) _⟩
 case done =>
  rintro D ys W hD hys ⟨⟨⟨⟨hp,h2⟩,h1⟩,h0⟩,hB⟩ hK
  obtain ⟨c0,c1,c2,c3,c4,c5⟩:=h0.cells
  have hn:x.nodes<=60:=by rw [← pre_len,← hys,List.length_map]; exact hp
  have his2:=HIs.out.below hB
  have hsc:=size_any x d A m c W (by omega) his2
  obtain ⟨N,hN⟩:∃ N,x.nodes=N:=⟨_,rfl⟩
  obtain ⟨D',hD'⟩:∃ D',x.depth=D':=⟨_,rfl⟩
  have hdn:=depth_le_nodes x
  rw [hN,hD'] at hsc hdn
  rw [hN] at hn
  have HS:=Lib.hid hsc
  have HN:=Lib.hid hN
  have HD:=Lib.hid hD'
  have HY:=Lib.hid hys
  clear hsc hN hD' hys his2
  gi_wp2_with fail
  refine ⟨trivial,?_⟩
  refine ((callsIn_wide (n:=4)).2 HS.out).mono ?_
  rintro e W2 ⟨rfl,hb2⟩
  have g0:=h0.below hb2
  have g1:Boxed W2 (w.heap.size + 1) 23 (.int .i64 0):=(hb2.block _ h1.lt).trans h1
  have hK2:W2.heap[D]?=some (.deferred (some [])):=(hb2.block _ (Array.getElem?_eq_some_iff.1 hK).1).trans hK
  have hB2:Below w.heap.size w W2:=hB.trans (hb2.mono hB.size)
  obtain ⟨c0,c1,c2,c3,c4,c5⟩:=g0.cells
  have r1:=g1.cell
  have r2:=g1.frozen
  have HK2:=Lib.hid hK2
  have HB2:=Lib.hid hB2
  have hB2s:=hB2.size
  clear hK hB h0 h1 h2 hb2 hK2 hB2 HS
  by_cases hdp:12 < D'
  ·have t1:(12:Int) < (D':Int):=by omega
   obtain rfl:R=4:=by rw [← HR.out]; unfold Ex.checkE; rw [HN.out,HD.out,if_neg (by omega),if_pos hdp]
   gi_wp2_with fail
   have hK3:=(KeepsOthers.setCell W2 ⟨w.heap.size + 1,0,none⟩ (.int .i64 4)).same D _ HK2.out rfl
   refine ⟨by simp,.inl ⟨_,_,rfl,run_takeDeferred hK3,?_⟩⟩
   have hc5:=cell_kept (g1.set (.int .i64 4)).cell (grownBy_putObj' _ D (.deferred none)) (fun r e => by cases e; exact ⟨_,hK3,rfl⟩)
   refine ⟨.int .i64 4,?_,rfl,(HB2.out.setCell (p:=⟨w.heap.size + 1,0,none⟩) (by show w.heap.size<=w.heap.size + 1; omega) _).trans (belowK_b (w:=w) (Nat.le_refl _) _ D _ _ (by omega) hK3 rfl rfl)⟩
   simp [results,Tryz.f53,go_sem,hc5]
  ·have t1:¬ (12:Int) < (D':Int):=by omega
   gi_wp2_with (refine ⟨trivial,?_⟩; gi_at_call 85; refine (nodes_in Fence.wide _ trivial rfl d A m c _).mono ?_; rintro e w' ⟨rfl,rfl⟩)
   have hR2:R=firstE x.pre:=by rw [← HR.out]; unfold Ex.checkE; rw [HN.out,HD.out,if_neg (by omega),if_neg hdp]
   have HR2:=Lib.hid hR2
   clear hR2
   obtain ⟨W3,hW3⟩:∃ W3,W2.alloc (.cells #[.int .i64 d.op,.int .i64 d.k,.int .i64 d.n,.string d.s,.string d.nm,.slice A m c] 45)=W3:=⟨_,rfl⟩
   rw [hW3]
   have hb3:Below W2.heap.size W2 W3:=by rw [← hW3]; exact b_new _ _
   have hs3:W2.heap.size < W3.heap.size:=by rw [← hW3]; simp
   have k1:Box W3 W2.heap.size d A m c:=by rw [← hW3]; exact Box.new W2 d A m c
   clear hW3
   have k2:Boxed W3 (w.heap.size + 1) 23 (.int .i64 0):=(hb3.block _ g1.lt).trans g1
   have hDl:=(Array.getElem?_eq_some_iff.1 HK2.out).1
   have k3:W3.heap[D]?=some (.deferred (some [])):=(hb3.block _ hDl).trans HK2.out
   have k4:Below w.heap.size w W3:=HB2.out.trans (hb3.mono (by omega))
   clear hb3 g0 g1 r1 r2 c0 c1 c2 c3 c4 c5 hb0 hb1
   refine wpIn_rangeFunc_ownH rfl (by decide) (gf:=113) (lb:=#[.pointer (some ⟨W2.heap.size,0,none⟩)]) rfl trivial (enters_of Tryz.func113 (by kernel_rfl) rfl)
    (nodes_stops Fence.wide rfl trivial trivial rfl _ W2.heap.size w W3 x d A m c HIs.out k4 k1) Kp.trans (fun W l o o' hl ho hc _ => kp_putObj W l o o' (by omega) ho hc) (Below.refl _ _) (fun _ => rfl)
    (fun pre V => ((firstE (pre.map Al.nd)=0/\Boxed V (w.heap.size + 1) 23 (.int .i64 0))/\V.heap[D]?=some (.deferred (some [])))/\Below w.heap.size w V)
    (fun cd pre V => (((cd=.ret/\firstE (pre.map Al.nd) ≠ 0)/\Boxed V (w.heap.size + 1) 23 (.int .i64 (firstE (pre.map Al.nd))))/\V.heap[D]?=some (.deferred (some [])))/\Below w.heap.size w V)
    (OwnFrom.and (OwnFrom.and (OwnFrom.and (ownFrom_pure _ _) (Own.from (boxed_own _ _ (fun _ => _)) _)) (def_own D _ (by omega) _)) (ownFrom_below (Nat.le_refl _) (by omega)))
    (fun cd => OwnFrom.and (OwnFrom.and (OwnFrom.and (ownFrom_pure _ _) (Own.from (boxed_own _ _ _) _)) (def_own D _ (by omega) _)) (ownFrom_below (Nat.le_refl _) (by omega)))
    ⟨⟨⟨rfl,k2⟩,k3⟩,k4⟩
    (fun y a' V => ∃ Bx,Box V Bx y.d y.A y.m y.c/\w.heap.size + 1 < Bx/\a'={ tmps:=#[.agg #[.int .i64 d.op,.int .i64 d.k,.int .i64 d.n,.string d.s,.string d.nm,.slice A m c],.pointer (some ⟨w.heap.size,0,none⟩),.pointer (some ⟨w.heap.size + 1,0,none⟩),.pointer (some ⟨w.heap.size + 1 + 1,0,none⟩),.int .i64 (N:Int),.int .i64 (D':Int),.pointer (some ⟨Bx,0,none⟩),undef,.agg #[.int .i64 d.op,.int .i64 d.k,.int .i64 d.n,.string d.s,.string d.nm,.slice A m c],.func (.func 113) #[] #[.pointer (some ⟨w.heap.size + 1 + 1 + 1,0,none⟩)],undef,undef,undef,undef,undef,.tuple #[.int .i64 (N:Int),.int .i64 (D':Int)],.agg #[.int .i64 d.op,.int .i64 d.k,.int .i64 d.n,.string d.s,.string d.nm,.slice A m c],.tuple #[.int .i64 (N:Int),.int .i64 (D':Int)],.int .i64 (N:Int),.int .i64 (D':Int),.int .i64 (D':Int),.bool (decide (12 < (D':Int))),.agg #[.int .i64 d.op,.int .i64 d.k,.int .i64 d.n,.string d.s,.string d.nm,.slice A m c],.func (.func 113) #[] #[.pointer (some ⟨W2.heap.size,0,none⟩)],.agg #[.int .i64 y.d.op,.int .i64 y.d.k,.int .i64 y.d.n,.string y.d.s,.string y.d.nm,.slice y.A y.m y.c],undef,undef,undef,undef,undef],defers:=[] })
    (fun y a' s X Y row hs hg hr => by obtain ⟨Bx,h1,h2,h3⟩:=hs; exact ⟨Bx,box_own (β:=Unit) Bx _ _ _ _ _ () X Y row h1 hg hr,h2,h3⟩)
    ?assign2 ?body2 ?done2 ?stop2
   case assign2 =>
    rintro l pre y V K ⟨⟨⟨i1,i2⟩,i3⟩,i4⟩ hK
    unfold encs
    gi_wp2
    exact hK _ _ ((KeepsOthers.alloc _ _).from _) (Kp.alloc _ i4.size) ⟨⟨⟨i1,i2.alloc _⟩,((b_new V _).block D (Array.getElem?_eq_some_iff.1 i3).1).trans i3⟩,i4.alloc i4.size _⟩ ⟨V.heap.size,Box.new V _ _ _ _,i2.lt,rfl⟩
   case body2 =>
    rintro l pre y a' V hl ⟨r,hr⟩ ⟨⟨⟨i1,i2⟩,i3⟩,i4⟩ ⟨Bx,j1,j2,rfl⟩ hlt
    obtain ⟨q,hq⟩:∃ q,nodeE y.d y.m=q:=⟨_,rfl⟩
    have hc:=node_any y.d.op y.d.k y.d.n y.d.s y.d.nm y.A y.m y.c V y.hm y.hs (HT.out.below i4)
    rw [show (⟨y.d.op,y.d.k,y.d.n,y.d.s,y.d.nm⟩:Nd)=y.d from rfl,hq] at hc
    have hsn:=firstE_snoc (pre.map Al.nd) y.nd i1
    rw [show nodeE y.nd.1 y.nd.2=q from hq,show [y.nd]=[y].map Al.nd from rfl,← List.map_append] at hsn
    obtain ⟨c0,c1,c2,c3,c4,c5⟩:=j1.cells
    have HC:=Lib.hid hc
    have HSn:=Lib.hid hsn
    have HI1:=Lib.hid i1
    clear hc hsn i1 hq
    gi_wp2_with fail
    refine ⟨trivial,?_⟩
    refine (CallsIn.inRound l ((callsIn_wide (n:=_)).2 HC.out)).mono ?_
    rintro e V2 ⟨rfl,hv⟩
    have m2:Boxed V2 (w.heap.size + 1) 23 (.int .i64 0):=(hv.block _ i2.lt).trans i2
    have m3:V2.heap[D]?=some (.deferred (some [])):=(hv.block D (Array.getElem?_eq_some_iff.1 i3).1).trans i3
    have m4:Below w.heap.size w V2:=i4.trans (hv.mono i4.size)
    have kf:=keeps_below hv W3.heap.size
    have kp:Kp w.heap.size W3.heap.size V V2:=Kp.of_below hv i4.size
    have r1:=m2.cell
    have r2:=m2.frozen
    clear hv i2 i3 i4 j1 c0 c1 c2 c3 c4 c5
    by_cases hq0:q=0
    ·subst hq0
     gi_wp2_with fail
     exact ⟨kf,kp,⟨⟨HSn.out,m2⟩,m3⟩,m4⟩
    ·have t3:(q != 0)=true:=bne_iff_ne.2 hq0
     have HQ:=Lib.hid hq0
     clear hq0
     gi_wp2_with fail
     refine ⟨kf.trans ((KeepsOthers.setCell _ _ _).from _),⟨⟨⟨rfl,by rw [HSn.out]; exact HQ.out⟩,by rw [HSn.out]; exact m2.set _⟩,?_⟩,m4.setCell (p:=⟨w.heap.size + 1,0,none⟩) (by show w.heap.size<=w.heap.size + 1; omega) _⟩
     exact (KeepsOthers.setCell _ _ _).same D _ m3 rfl
   case done2 =>
    rintro D2 zs V hD2 hzs ⟨⟨⟨i1,i2⟩,i3⟩,i4⟩ hKD
    obtain rfl:R=0:=by rw [HR2.out,← hzs]; exact i1
    have r1:=i2.cell
    have r2:=i2.frozen
    clear hzs i1
    gi_wp2
    have hK3:=(KeepsOthers.setCell V ⟨w.heap.size + 1,0,none⟩ (.int .i64 0)).same D2 _ hKD rfl
    have hK4:(V.setCell ⟨w.heap.size + 1,0,none⟩ (.int .i64 0)).heap[D]?=_:=(KeepsOthers.setCell V ⟨w.heap.size + 1,0,none⟩ (.int .i64 0)).same D _ i3 rfl
    have hne:D ≠ D2:=by omega
    have hK5:((V.setCell ⟨w.heap.size + 1,0,none⟩ (.int .i64 0)).putObj D2 (.deferred none)).heap[D]?=some (.deferred (some [])):=by rw [World.putObj_heap_other hne]; exact hK4
    refine ⟨by simp,.inl ⟨_,_,rfl,run_takeDeferred hK3,⟨by simp,.inl ⟨_,_,rfl,run_takeDeferred hK5,?_⟩⟩⟩⟩
    have hc5:=cell_kept (i2.set (.int .i64 0)).cell (grownBy_putObj' _ D2 (.deferred none)) (fun r e => by cases e; exact ⟨_,hK3,rfl⟩)
    have hc6:=cell_kept hc5 (grownBy_putObj' _ D (.deferred none)) (fun r e => by cases e; exact ⟨_,hK5,rfl⟩)
    refine ⟨.int .i64 0,?_,rfl,((i4.setCell (p:=⟨w.heap.size + 1,0,none⟩) (by show w.heap.size<=w.heap.size + 1; omega) _).trans (belowK_b (w:=w) (Nat.le_refl _) _ D2 _ _ (by omega) hK3 rfl rfl)).trans (belowK_b (w:=w) (Nat.le_refl _) _ D _ _ (by omega) hK5 rfl rfl)⟩
    simp [results,Tryz.f53,go_sem,hc6]
   case stop2 =>
    rintro D2 cd pre V hD2 hpre ⟨⟨⟨⟨rfl,i1⟩,i2⟩,i3⟩,i4⟩ hKD
    obtain ⟨q,hq⟩:∃ q,firstE (pre.map Al.nd)=q:=⟨_,rfl⟩
    obtain rfl:R=q:=by rw [HR2.out,← hq]; exact firstE_prefix hpre i1
    rw [hq] at i2
    clear hq hpre i1
    have r1:=i2.cell
    gi_wp2
    have hne:D ≠ D2:=by omega
    have hK5:(V.putObj D2 (.deferred none)).heap[D]?=some (.deferred (some [])):=by rw [World.putObj_heap_other hne]; exact i3
    refine ⟨by simp,.inl ⟨_,_,rfl,run_takeDeferred hKD,⟨by simp,.inl ⟨_,_,rfl,run_takeDeferred hK5,?_⟩⟩⟩⟩
    have hc5:=cell_kept i2.cell (grownBy_putObj' _ D2 (.deferred none)) (fun r e => by cases e; exact ⟨_,hKD,rfl⟩)
    have hc6:=cell_kept hc5 (grownBy_putObj' _ D (.deferred none)) (fun r e => by cases e; exact ⟨_,hK5,rfl⟩)
    refine ⟨.int .i64 R,?_,rfl,(i4.trans (belowK_b (w:=w) (Nat.le_refl _) _ D2 _ _ (by omega) hKD rfl rfl)).trans (belowK_b (w:=w) (Nat.le_refl _) _ D _ _ (by omega) hK5 rfl rfl)⟩
    simp [results,Tryz.f53,go_sem,hc6]
 case stop =>
  rintro D cd pre W hD hpre ⟨⟨⟨rfl,hin⟩,h1⟩,hB⟩ hK
  have hn:60 < x.nodes:=by rw [← pre_len]; have:=hpre.length_le; rw [List.length_map] at this; omega
  have hc5:=cell_kept h1.cell (grownBy_putObj' _ D (.deferred none)) (fun r e => by cases e; exact ⟨_,hK,rfl⟩)
  obtain rfl:R=1:=by rw [← HR.out]; unfold Ex.checkE; rw [if_pos hn]
  gi_wp2
  refine ⟨by simp,.inl ⟨_,_,rfl,run_takeDeferred hK,?_⟩⟩
  refine ⟨.int .i64 1,?_,rfl,hB.trans (belowK_b (w:=w) (Nat.le_refl _) W D _ _ (by omega) hK rfl rfl)⟩
  simp [results,Tryz.f53,go_sem,hc5]
end ExC
end Go.Proofs.YtjhhmdmmllblhaaGreatDoor
