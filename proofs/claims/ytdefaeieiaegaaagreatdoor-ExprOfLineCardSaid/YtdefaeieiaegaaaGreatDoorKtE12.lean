/- NmHas Iter NmTop: what these laws name of them. -/
import Derived.RangeFuncBox
import Derived.RangeFuncNested
import Derived.RangeFuncBound
import Derived.RangeFuncCalls
import Derived.RangeFuncLeaves
import Derived.Shelf.Abstract
import Derived.Shelf.RegionOpen
import Derived.WalkKit
import Derived.OwnWalkIn
import Derived.TacticsInMore
import Derived.LoopNIn
import Derived.LoopIn
import Derived.Deep.RegionHeld3
import Derived.Deep.QuietTactic
import Derived.Deep.RegionWith
import Derived.ChangeOld
import Derived.Deep.DrawnRows
import Derived.LaidMore
import Derived.BigQuiet
import Derived.Test.YtdefaeieiaegaaaGreatDoorProg
import Derived.ProofKit
import Derived.Lib.Hide
import Derived.Outline
import Derived.Below
import Derived.WalkSpells
import Derived.WalkLawsBesides
import Derived.IntWalk
import Derived.Laws.OwnMore
import Derived.OwnWalk
import Derived.ChangeAlike
import GoSem.Claim
import Derived.Lib.Bytealg
import Derived.Lib.Small
import Derived.Lib.AtoiAll
import Derived.Deep.Draws
import Derived.LaidLaws
import Derived.ChangeArms
import Derived.Lib.LaidTab
import Derived.WideShapes
import Derived.Test.YtdefaeieiaegaaaGreatDoorChecked
import Derived.WalkSmall
import Derived.Shelf.SlIter.Nil
import Derived.Shelf.SortM.Plain
import Derived.Shelf.SortM.SortNone
import Derived.Ground.GgzProg
import Derived.Ground.SlgmProg
import Derived.RangeFuncWrites
import Derived.Maps.OwnIn
import Derived.StringKeys
import Derived.Laws.AppendOwnNone
import Derived.Deep.AppendLies
import Derived.Deep.RegionLaw
import Derived.Sort.EncStr
import Derived.RegionTactic
import Derived.Deep.DeepCutAuto
import Derived.Deep.CutBlock
import Derived.Test.YtdefaeieiaegaaaGreatDoorKtE01
import Derived.Test.YtdefaeieiaegaaaGreatDoorKtE03
import Derived.Test.YtdefaeieiaegaaaGreatDoorKtE08
import Derived.Test.YtdefaeieiaegaaaGreatDoorKtE09
set_option linter.unusedVariables false
namespace Go.Proofs.YtdefaeieiaegaaaGreatDoor.NmV
open Go.RowKit Go.Shelf
open ExM NmM Kit ExL ExV
set_option linter.unusedVariables false
attribute [local go_sem] Oper.semAt_some
abbrev Nm:={ s:ByteArray // s.size<=maxLen }
def encs (x:Nm):Array Value:=#[.string x.1]
def bare (l:List Nm):List ByteArray:=l.map Subtype.val
theorem bare_append (l m:List Nm):bare (l ++ m)=bare l ++ bare m:=List.map_append
theorem bare_len (l:List Nm):(bare l).length=l.length:=List.length_map _
def VOut (w0:World) (n₁:Nat) (J Jx:List Nm->World->Prop) (pre:List Nm) (P:List ByteArray) (W:World) (e:Ending) (W':World):Prop :=
 (e=.returned (.bool true)/\(∃ ys:List Nm,bare ys=P/\J (pre ++ ys) W')/\Kp w0.heap.size n₁ W W') ∨ (e=.returned (.bool false)/\∃ q:List Nm,bare q <+: P/\Jx (pre ++ q) W')
structure VInv (w0:World) (n₁:Nat) (J:List Nm->World->Prop) (pre:List Nm) (P:List ByteArray) (W:World) (ys:List Nm) (wr:World):Prop where
 is:bare ys=P
 j:J (pre ++ ys) wr
 kp:Kp w0.heap.size n₁ W wr
 below:Below w0.heap.size w0 wr
 le:n₁<=wr.heap.size
theorem VInv.step {w0:World} {n₁:Nat} {J:List Nm->World->Prop} {pre:List Nm} {p0:List ByteArray} {l:List Ex} {k:Nat} {W wr w2:World} {ys zs:List Nm} {o:Obj} (h:VInv w0 n₁ J pre (p0 ++ refsL (l.take k)) W ys wr) (hk:k < l.length)
  (hz:bare zs=Ex.refs l[k]) (hj:J (pre ++ ys ++ zs) w2) (hp:Kp w0.heap.size n₁ (wr.alloc o) w2):VInv w0 n₁ J pre (p0 ++ refsL (l.take (k + 1))) W (ys ++ zs) w2:=by
 have hp2:Kp w0.heap.size n₁ wr w2:=(Kp.alloc o h.below.size).trans hp
 exact ⟨by rw [bare_append,h.is,hz,refsL_at l k hk,List.append_assoc],by rw [← List.append_assoc]; exact hj,h.kp.trans hp2,h.below.trans hp2.below,by have:=hp2.below.size; have:=h.le; omega⟩
set_option maxRecDepth 100000 in
set_option maxHeartbeats 2000000 in
theorem visit_in (F:Fence) (hd:F.depth=none) (hv:F.fn 205) (hro:F.round=none) (l n₁ N:Nat) (w0:World) (J Jx:List Nm->World->Prop)
  (hJ:∀ s W o,J s W->J s (W.alloc o))
  (hY:∀ m pre (x:Nm) W,J pre W->pre.length < N->YieldAt F m Tryz.prog l (encs x) W fun e W' => (e=.returned (.bool true)/\J (pre ++ [x]) W'/\Kp w0.heap.size n₁ W W') ∨ (e=.returned (.bool false)/\Jx (pre ++ [x]) W')) :
  ∀ (x:Ex) (d:Nd) (A:Option Addr) (m c:Nat) (n:Nat) (pre:List Nm) (W:World),Is w0 x d A m->Below w0.heap.size w0 W->n₁<=W.heap.size->J pre W->pre.length + (Ex.refs x).length<=N →
   CallsIn F n Tryz.prog 205 #[.agg #[.int .i64 d.op,.int .i64 d.k,.int .i64 d.n,.string d.s,.string d.nm,.slice A m c],.func (.yield l) #[] #[]] W (VOut w0 n₁ J Jx pre (Ex.refs x) W):=by
 refine Ex.ind fun d l' ih => ?_
 intro d' A m c n pre W his hB hn hj hN
 rw [is_mk] at his
 obtain ⟨rfl,rfl,⟨hm,hs1,hs2⟩,his⟩:=his
 have hdd:∀ k:Nat,(F.depth.isSome=true->1<=k):=fun k h => by rw [hd] at h; cases h
 obtain ⟨p0,hp0⟩:∃ p0,(if d'.op=2 then [d'.nm] else [])=p0:=⟨_,rfl⟩
 have hrf:Ex.refs (.mk d' l')=p0 ++ refsL l':=by rw [refs_mk,hp0]
 rw [hrf] at hN ⊢
 rw [List.length_append] at hN
 have hj1:=hJ _ _ (.cells #[.int .i64 d'.op,.int .i64 d'.k,.int .i64 d'.n,.string d'.s,.string d'.nm,.slice A l'.length c] 50) hj
 have HS:=Lib.hid his
 have HI:=Lib.hid ih
 have HN:=Lib.hid hN
 clear his ih hrf hN
 unfold maxLen at hm
 by_cases hop:d'.op=2
 ·rw [if_pos hop] at hp0
  have hy1:=hY (n - 1) pre ⟨d'.nm,hs2⟩ _ hj1 (by have:=HN.out; rw [← hp0] at this; simp at this; omega)
  obtain ⟨fn,tmps,assign,body,hy,hR⟩:=hy1
  unfold encs at hy
  dsimp only at hy
  have HR:=Lib.hid hR
  have HP:=Lib.hid hp0
  have t0:(d'.op == 2)=true:=beq_iff_eq.2 hop
  clear hj hj1 hR hp0 hop
  refine callsIn_of_wp Tryz.func205 rfl hv ?_ hro
  simp only [Tryz.ntmps205,List.size_toArray,List.length_cons,List.length_nil,Nat.reduceAdd,Nat.reduceSub,Array.replicate_succ,Array.replicate_zero,List.push_toArray,List.append_toArray,List.nil_append,List.cons_append]
  gi_wp2_with fail
  refine HR.out.mono ?_; clear HR hy; rintro e W1 (⟨rfl,hj1,hk1⟩ | ⟨rfl,hx1⟩)
  ·have hc5:W1.cell? ⟨W.heap.size,5,none⟩=some (.slice A l'.length c):=by rw [hk1.box hn]; rfl
   have hkW:Kp w0.heap.size n₁ W W1:=(Kp.alloc _ hB.size).trans hk1
   have hI0:VInv w0 n₁ J pre (p0 ++ refsL (l'.take 0)) W [⟨d'.nm,hs2⟩] W1:=⟨by rw [← HP.out]; simp [bare,refsL_nil],hj1,hkW,hB.trans hkW.below,by have:=hkW.below.size; omega⟩
   have HI0:=Lib.hid hI0
   clear hI0 hkW hk1 hj1 t0
   gi_wp2_with fail
   gi_loopw [6,20] (fun _ i wr => ∃ (k:Nat) (ys:List Nm),i=.int .i64 k/\k<=l'.length/\VInv w0 n₁ J pre (p0 ++ refsL (l'.take k)) W ys wr) (fun _ i _ => l'.length - (intOf i).toNat)
   case atStart => exact ⟨0,_,rfl,Nat.zero_le _,HI0.out⟩
   case round =>
    obtain ⟨k,ys,rfl,hk,hV⟩:=hrel
    have HV:=Lib.hid hV
    clear hV
    by_cases hlt:k < l'.length
    ·obtain ⟨a,d2,B,m2,c2,rfl,hat,hi⟩:=HS.out k hlt
     obtain ⟨h0,h1,h2,h3,h4,h5⟩:=hat.below HV.out.below
     have hVb:=HV.out.below
     have hVn:=HV.out.le
     have hcx:=HI.out _ (List.getElem_mem hlt) d2 B m2 c2 (n - 1) (pre ++ ys) (wr.alloc (.cells #[.int .i64 d2.op,.int .i64 d2.k,.int .i64 d2.n,.string d2.s,.string d2.nm,.slice B m2 c2] 50)) hi (hVb.trans ((b_new _ _).mono hVb.size)) (by simp; omega) (hJ _ _ _ HV.out.j) (by
      have e1:ys.length=(p0 ++ refsL (l'.take k)).length:=by rw [← HV.out.is,bare_len]
      have e2:=congrArg List.length (refsL_at l' k hlt)
      have e3:=refsL_take l' (k + 1)
      have e4:=HN.out
      rw [List.length_append] at e1 e2
      rw [List.length_append,e1]; omega)
     have HC:=Lib.hid hcx
     clear hcx hat hi hVb
     gi_wp2_with fail
     refine HC.out.mono ?_; rintro e w2 (⟨rfl,⟨zs,hz,hjz⟩,hkz⟩ | ⟨rfl,q,hq,hxq⟩)
     ·have hN:VInv w0 n₁ J pre (p0 ++ refsL (l'.take (k + 1))) W (ys ++ zs) w2:=HV.out.step hlt hz hjz hkz
      have HN2:=Lib.hid hN
      clear hN hz hjz hkz
      gi_wp2_with fail
      go_roundw
      case rel => exact ⟨k + 1,_,by go_num,by omega,HN2.out⟩
      case measure => simp [intOf]; omega
     ·have hO:VOut w0 n₁ J Jx pre (p0 ++ refsL l') W (.returned (.bool false)) w2:=.inr ⟨rfl,ys ++ q,by
       rw [bare_append,HV.out.is,List.append_assoc]
       exact (List.prefix_append_right_inj _).2 (refs_prefix l' k hlt hq),by rw [← List.append_assoc]; exact hxq⟩
      have HO:=Lib.hid hO
      clear hO hq hxq
      gi_wp2_with fail
      go_ret
      exact HO.out
    ·have hkl:k=l'.length:=by omega
     have hO:VOut w0 n₁ J Jx pre (p0 ++ refsL l') W (.returned (.bool true)) wr:=.inl ⟨rfl,⟨ys,by rw [HV.out.is,hkl,List.take_length],HV.out.j⟩,HV.out.kp⟩
     have HO:=Lib.hid hO
     clear hO hkl
     gi_wp2_with fail
     go_ret
     exact HO.out
  ·have hO:VOut w0 n₁ J Jx pre (p0 ++ refsL l') W (.returned (.bool false)) W1:=.inr ⟨rfl,[⟨d'.nm,hs2⟩],by rw [← HP.out]; exact (List.prefix_cons_inj _).2 List.nil_prefix,hx1⟩
   have HO:=Lib.hid hO
   clear hO hx1
   gi_wp2_with fail
   go_ret
   exact HO.out
 ·rw [if_neg hop] at hp0
  have hkW:Kp w0.heap.size n₁ W (W.alloc (.cells #[.int .i64 d'.op,.int .i64 d'.k,.int .i64 d'.n,.string d'.s,.string d'.nm,.slice A l'.length c] 50)):=Kp.alloc _ hB.size
  have hI0:VInv w0 n₁ J pre (p0 ++ refsL (l'.take 0)) W [] (W.alloc (.cells #[.int .i64 d'.op,.int .i64 d'.k,.int .i64 d'.n,.string d'.s,.string d'.nm,.slice A l'.length c] 50)):=⟨by rw [← hp0]; simp [bare,refsL_nil],by rw [List.append_nil]; exact hj1,hkW,hB.trans hkW.below,by have:=hkW.below.size; omega⟩
  have HI0:=Lib.hid hI0
  have t0:(d'.op == 2)=false:=beq_eq_false_iff_ne.2 hop
  clear hj hj1 hp0 hop hI0 hkW
  refine callsIn_of_wp Tryz.func205 rfl hv ?_ hro
  simp only [Tryz.ntmps205,List.size_toArray,List.length_cons,List.length_nil,Nat.reduceAdd,Nat.reduceSub,Array.replicate_succ,Array.replicate_zero,List.push_toArray,List.append_toArray,List.nil_append,List.cons_append]
  gi_wp2_with fail
  refine ⟨fun _ h => (by cases h),?_⟩
  gi_wp2_with fail
  gi_loopw [6,20] (fun _ i wr => ∃ (k:Nat) (ys:List Nm),i=.int .i64 k/\k<=l'.length/\VInv w0 n₁ J pre (p0 ++ refsL (l'.take k)) W ys wr) (fun _ i _ => l'.length - (intOf i).toNat)
  case atStart => exact ⟨0,_,rfl,Nat.zero_le _,HI0.out⟩
  case round =>
   obtain ⟨k,ys,rfl,hk,hV⟩:=hrel
   have HV:=Lib.hid hV
   clear hV
   by_cases hlt:k < l'.length
   ·obtain ⟨a,d2,B,m2,c2,rfl,hat,hi⟩:=HS.out k hlt
    obtain ⟨h0,h1,h2,h3,h4,h5⟩:=hat.below HV.out.below
    have hVb:=HV.out.below
    have hVn:=HV.out.le
    have hcx:=HI.out _ (List.getElem_mem hlt) d2 B m2 c2 (n - 1) (pre ++ ys) (wr.alloc (.cells #[.int .i64 d2.op,.int .i64 d2.k,.int .i64 d2.n,.string d2.s,.string d2.nm,.slice B m2 c2] 50)) hi (hVb.trans ((b_new _ _).mono hVb.size)) (by simp; omega) (hJ _ _ _ HV.out.j) (by
     have e1:ys.length=(p0 ++ refsL (l'.take k)).length:=by rw [← HV.out.is,bare_len]
     have e2:=congrArg List.length (refsL_at l' k hlt)
     have e3:=refsL_take l' (k + 1)
     have e4:=HN.out
     rw [List.length_append] at e1 e2
     rw [List.length_append,e1]; omega)
    have HC:=Lib.hid hcx
    clear hcx hat hi hVb
    gi_wp2_with fail
    refine HC.out.mono ?_; rintro e w2 (⟨rfl,⟨zs,hz,hjz⟩,hkz⟩ | ⟨rfl,q,hq,hxq⟩)
    ·have hN:VInv w0 n₁ J pre (p0 ++ refsL (l'.take (k + 1))) W (ys ++ zs) w2:=HV.out.step hlt hz hjz hkz
     have HN2:=Lib.hid hN
     clear hN hz hjz hkz
     gi_wp2_with fail
     go_roundw
     case rel => exact ⟨k + 1,_,by go_num,by omega,HN2.out⟩
     case measure => simp [intOf]; omega
    ·have hO:VOut w0 n₁ J Jx pre (p0 ++ refsL l') W (.returned (.bool false)) w2:=.inr ⟨rfl,ys ++ q,by
      rw [bare_append,HV.out.is,List.append_assoc]
      exact (List.prefix_append_right_inj _).2 (refs_prefix l' k hlt hq),by rw [← List.append_assoc]; exact hxq⟩
     have HO:=Lib.hid hO
     clear hO hq hxq
     gi_wp2_with fail
     go_ret
     exact HO.out
   ·have hkl:k=l'.length:=by omega
    have hO:VOut w0 n₁ J Jx pre (p0 ++ refsL l') W (.returned (.bool true)) wr:=.inl ⟨rfl,⟨ys,by rw [HV.out.is,hkl,List.take_length],HV.out.j⟩,HV.out.kp⟩
    have HO:=Lib.hid hO
    clear hO hkl
    gi_wp2_with fail
    go_ret
    exact HO.out
set_option maxRecDepth 100000 in
set_option maxHeartbeats 1000000 in
theorem refs_stops (F:Fence) (hd:F.depth=none) (hn1:F.fn 204) (hv:F.fn 205) (hro:F.round=none) (n Bx:Nat) (w0 w:World) (x:Ex) (d:Nd) (A:Option Addr) (m c:Nat)
  (his:Is w0 x d A m) (hb:Below w0.heap.size w0 w) (hbox:Box w Bx d A m c) :
  SeqStopsK F n Tryz.prog 204 #[.pointer (some ⟨Bx,0,none⟩)] encs (Kp w0.heap.size w.heap.size) (fun ys => bare ys=Ex.refs x) (fun q => bare q <+: Ex.refs x) (Ex.refs x).length w:=by
 intro l J Jx W hW hJ hJx hY h0
 have hdd:∀ k:Nat,(F.depth.isSome=true->1<=k):=fun k h => by rw [hd] at h; cases h
 obtain ⟨b0,b1,b2,b3,b4,b5⟩:=(hbox.below hW).cells
 have hp:=visit_in F hd hv hro l w.heap.size (Ex.refs x).length w0 J Jx (fun s W o hs => hJ s W _ none hs (World.grownBy_alloc W o none) (fun r e => by cases e)) (fun m pre x W hj hl => anyDepth hd m (hY pre x W hj hl)) x d A m c (n - 1) [] W his (hb.trans (hW.mono hb.size)) hW.size h0 (by simp)
 have HP:=Lib.hid hp
 clear hp his hb hbox hW hJ hJx hY h0
 refine callsIn_of_wp Tryz.func204 rfl hn1 ?_ hro
 simp only [Tryz.ntmps204,List.size_toArray,List.length_cons,List.length_nil,Nat.reduceAdd,Nat.reduceSub,Array.replicate_succ,Array.replicate_zero,List.push_toArray,List.append_toArray,List.nil_append,List.cons_append]
 gi_wp2_with fail
 refine HP.out.mono ?_; rintro e w2 (⟨rfl,⟨zs,hz,hjz⟩,hkz⟩ | ⟨rfl,q,hq,hxq⟩)
 ·rw [List.nil_append] at hjz
  have HO:=Lib.hid (And.intro hz hjz)
  clear hz hjz hkz
  gi_wp2_with fail
  go_end0
  exact ⟨⟨_,rfl⟩,.inl ⟨zs,HO.out⟩⟩
 ·rw [List.nil_append] at hxq
  have HO:=Lib.hid (And.intro hq hxq)
  clear hq hxq
  gi_wp2_with fail
  go_end0
  exact ⟨⟨_,rfl⟩,.inr ⟨q,HO.out⟩⟩
theorem refs_in (F:Fence) (n:Nat) (hf:F.fn 179) (hro:F.round=none) (d:Nd) (A:Option Addr) (m c:Nat) (w:World) :
  CallsIn F n Tryz.prog 179 #[.agg #[.int .i64 d.op,.int .i64 d.k,.int .i64 d.n,.string d.s,.string d.nm,.slice A m c]] w fun e w' => e=.returned (.func (.func 204) #[] #[.pointer (some ⟨w.heap.size,0,none⟩)])/\w'=w.alloc (.cells #[.int .i64 d.op,.int .i64 d.k,.int .i64 d.n,.string d.s,.string d.nm,.slice A m c] 50):=by
 refine callsIn_of_wp Tryz.func179 rfl hf ?_ hro
 simp only [Tryz.ntmps179,List.size_toArray,List.length_cons,List.length_nil,Nat.reduceAdd,Nat.reduceSub,Array.replicate_succ,Array.replicate_zero,List.push_toArray,List.append_toArray,List.nil_append,List.cons_append]
 gi_wp2
 go_ret
 exact ⟨rfl,rfl⟩
end Go.Proofs.YtdefaeieiaegaaaGreatDoor.NmV
namespace Go.Proofs.YtdefaeieiaegaaaGreatDoor.NmH
open Go.RowKit Go.Shelf
open ExM NmM Kit ExL ExV NmV
set_option linter.unusedVariables false
attribute [local go_sem] Oper.semAt_some
end Go.Proofs.YtdefaeieiaegaaaGreatDoor.NmH
namespace Go.Proofs
open Go.Shelf
def Tryz.keys181_ren:Go.Shelf.Ren:=⟨fun | 7 => 181 | 10 => 208 | n => n,fun | 23 => 140 | 26 => 9 | 3 => 4 | 28 => 206 | 0 => 0 | 27 => 205 | 33 => 33 | 4 => 4 | n => n,fun | n => n⟩
theorem Tryz.keys181:Go.Proofs.SlLaysZ.n7 Tryz.prog Tryz.keys181_ren:={
 mixed:=by kernel_rfl
 f7:=⟨Tryz.f181.name,by decide,Tryz.func181.trans (congrArg some (by kernel_rfl))⟩
 f10:=⟨Tryz.f208.name,by decide,Tryz.func208.trans (congrArg some (by kernel_rfl))⟩
 t0:=Tryz.underlying0
 a0:=Tryz.isAgg0
 z0:=Tryz.sizeOf0
 v0:=Tryz.zeroValue0
 t4:=Tryz.underlying4
 a4:=Tryz.isAgg4
 z4:=Tryz.sizeOf4
 v4:=Tryz.zeroValue4
 t23:=Tryz.underlying140
 a23:=Tryz.isAgg140
 z23:=Tryz.sizeOf140
 v23:=Tryz.zeroValue140
 t26:=Tryz.underlying9
 a26:=Tryz.isAgg9
 z26:=Tryz.sizeOf9
 v26:=Tryz.zeroValue9
 t27:=Tryz.underlying205
 a27:=Tryz.isAgg205
 z27:=Tryz.sizeOf205
 v27:=Tryz.zeroValue205
 t28:=Tryz.underlying206
 a28:=Tryz.isAgg206
 z28:=Tryz.sizeOf206
 v28:=Tryz.zeroValue206
 t33:=Tryz.underlying33
 a33:=Tryz.isAgg33
 z33:=Tryz.sizeOf33
 v33:=Tryz.zeroValue33 }
def Tryz.sorted180_ren:Go.Shelf.Ren:=⟨fun | 6 => 180 | 8 => 206 | 9 => 207 | 11 => 228 | 13 => 230 | 12 => 229 | 23 => 252 | 24 => 233 | 14 => 243 | 15 => 244 | 16 => 245 | 17 => 246 | 18 => 247 | 19 => 248 | 20 => 249 | 21 => 250 | 22 => 251 | 25 => 259 | 26 => 260 | 27 => 261 | 28 => 262 | 29 => 263 | 30 => 264 | 31 => 267 | n => n,fun | 26 => 9 | 28 => 206 | 24 => 38 | 0 => 0 | 3 => 3 | 37 => 196 | 48 => 217 | 50 => 237 | 4 => 4 | 40 => 271 | 39 => 270 | 45 => 147 | 5 => 5 | 9 => 9 | 51 => 282 | 55 => 286 | 57 => 292 | 58 => 127 | 33 => 33 | n => n,fun | n => n⟩
theorem Tryz.sorted180:Go.Proofs.SlLaysZ.n6 Tryz.prog Tryz.sorted180_ren:={
 mixed:=by kernel_rfl
 f6:=⟨Tryz.f180.name,by decide,Tryz.func180.trans (congrArg some (by kernel_rfl))⟩
 f8:=⟨Tryz.f206.name,by decide,Tryz.func206.trans (congrArg some (by kernel_rfl))⟩
 f11:=⟨Tryz.f228.name,by decide,Tryz.func228.trans (congrArg some (by kernel_rfl))⟩
 t0:=Tryz.underlying0
 a0:=Tryz.isAgg0
 z0:=Tryz.sizeOf0
 v0:=Tryz.zeroValue0
 t24:=Tryz.underlying38
 a24:=Tryz.isAgg38
 z24:=Tryz.sizeOf38
 v24:=Tryz.zeroValue38
 t26:=Tryz.underlying9
 a26:=Tryz.isAgg9
 z26:=Tryz.sizeOf9
 v26:=Tryz.zeroValue9
 t28:=Tryz.underlying206
 a28:=Tryz.isAgg206
 z28:=Tryz.sizeOf206
 v28:=Tryz.zeroValue206
 i26:=by kernel_rfl }
def Tryz.sort207_ren:Go.Shelf.Ren:=⟨fun | 6 => 207 | 8 => 230 | 9 => 229 | 19 => 252 | 20 => 233 | 21 => 243 | 22 => 244 | 23 => 245 | 24 => 246 | 25 => 247 | 26 => 248 | 27 => 249 | 28 => 250 | 29 => 251 | 36 => 259 | 31 => 260 | 32 => 261 | 37 => 262 | 38 => 263 | 39 => 264 | 41 => 267 | n => n,fun | 27 => 38 | 29 => 9 | 3 => 3 | 32 => 196 | 26 => 38 | 0 => 0 | 44 => 217 | 46 => 237 | 4 => 4 | 36 => 271 | 35 => 270 | 41 => 147 | 5 => 5 | 9 => 9 | 53 => 282 | 57 => 286 | 63 => 292 | 64 => 127 | n => n,fun | n => n⟩
theorem Tryz.sort207:Go.Proofs.SlLaysM.n6 Tryz.prog Tryz.sort207_ren:={
 mixed:=by kernel_rfl
 f6:=⟨Tryz.f207.name,by decide,Tryz.func207.trans (congrArg some (by kernel_rfl))⟩
 f8:=Tryz.func230.trans (congrArg some (by kernel_rfl))
 f9:=⟨Tryz.f229.name,by decide,Tryz.func229.trans (congrArg some (by kernel_rfl))⟩
 f19:=Tryz.func252.trans (congrArg some (by kernel_rfl))
 f20:=Tryz.func233.trans (congrArg some (by kernel_rfl))
 f21:=⟨Tryz.f243.name,by decide,Tryz.func243.trans (congrArg some (by kernel_rfl))⟩
 f22:=⟨Tryz.f244.name,by decide,Tryz.func244.trans (congrArg some (by kernel_rfl))⟩
 f23:=⟨Tryz.f245.name,by decide,Tryz.func245.trans (congrArg some (by kernel_rfl))⟩
 f24:=⟨Tryz.f246.name,by decide,Tryz.func246.trans (congrArg some (by kernel_rfl))⟩
 f25:=⟨Tryz.f247.name,by decide,Tryz.func247.trans (congrArg some (by kernel_rfl))⟩
 f26:=⟨Tryz.f248.name,by decide,Tryz.func248.trans (congrArg some (by kernel_rfl))⟩
 f27:=⟨Tryz.f249.name,by decide,Tryz.func249.trans (congrArg some (by kernel_rfl))⟩
 f28:=⟨Tryz.f250.name,by decide,Tryz.func250.trans (congrArg some (by kernel_rfl))⟩
 f29:=⟨Tryz.f251.name,by decide,Tryz.func251.trans (congrArg some (by kernel_rfl))⟩
 f31:=Tryz.func260.trans (congrArg some (by kernel_rfl))
 f32:=Tryz.func261.trans (congrArg some (by kernel_rfl))
 f36:=⟨Tryz.f259.name,by decide,Tryz.func259.trans (congrArg some (by kernel_rfl))⟩
 f37:=⟨Tryz.f262.name,by decide,Tryz.func262.trans (congrArg some (by kernel_rfl))⟩
 f38:=⟨Tryz.f263.name,by decide,Tryz.func263.trans (congrArg some (by kernel_rfl))⟩
 f39:=⟨Tryz.f264.name,by decide,Tryz.func264.trans (congrArg some (by kernel_rfl))⟩
 f41:=⟨Tryz.f267.name,by decide,Tryz.func267.trans (congrArg some (by kernel_rfl))⟩
 t0:=Tryz.underlying0
 a0:=Tryz.isAgg0
 z0:=Tryz.sizeOf0
 v0:=Tryz.zeroValue0
 t3:=Tryz.underlying3
 a3:=Tryz.isAgg3
 z3:=Tryz.sizeOf3
 v3:=Tryz.zeroValue3
 t4:=Tryz.underlying4
 a4:=Tryz.isAgg4
 z4:=Tryz.sizeOf4
 v4:=Tryz.zeroValue4
 t5:=Tryz.underlying5
 a5:=Tryz.isAgg5
 z5:=Tryz.sizeOf5
 v5:=Tryz.zeroValue5
 t9:=Tryz.underlying9
 a9:=Tryz.isAgg9
 z9:=Tryz.sizeOf9
 v9:=Tryz.zeroValue9
 t26:=Tryz.underlying38
 a26:=Tryz.isAgg38
 z26:=Tryz.sizeOf38
 v26:=Tryz.zeroValue38
 t27:=Tryz.underlying38
 a27:=Tryz.isAgg38
 z27:=Tryz.sizeOf38
 v27:=Tryz.zeroValue38
 t29:=Tryz.underlying9
 a29:=Tryz.isAgg9
 z29:=Tryz.sizeOf9
 v29:=Tryz.zeroValue9
 t32:=Tryz.underlying196
 a32:=Tryz.isAgg196
 z32:=Tryz.sizeOf196
 v32:=Tryz.zeroValue196
 t35:=Tryz.underlying270
 a35:=Tryz.isAgg270
 z35:=Tryz.sizeOf270
 v35:=Tryz.zeroValue270
 t36:=Tryz.underlying271
 a36:=Tryz.isAgg271
 z36:=Tryz.sizeOf271
 v36:=Tryz.zeroValue271
 t41:=Tryz.underlying147
 a41:=Tryz.isAgg147
 z41:=Tryz.sizeOf147
 v41:=Tryz.zeroValue147
 t44:=Tryz.underlying217
 a44:=Tryz.isAgg217
 z44:=Tryz.sizeOf217
 v44:=Tryz.zeroValue217
 t46:=Tryz.underlying237
 a46:=Tryz.isAgg237
 z46:=Tryz.sizeOf237
 v46:=Tryz.zeroValue237
 t53:=Tryz.underlying282
 a53:=Tryz.isAgg282
 z53:=Tryz.sizeOf282
 v53:=Tryz.zeroValue282
 t57:=Tryz.underlying286
 a57:=Tryz.isAgg286
 z57:=Tryz.sizeOf286
 v57:=Tryz.zeroValue286
 t63:=Tryz.underlying292
 a63:=Tryz.isAgg292
 z63:=Tryz.sizeOf292
 v63:=Tryz.zeroValue292
 t64:=Tryz.underlying127
 a64:=Tryz.isAgg127
 z64:=Tryz.sizeOf127
 v64:=Tryz.zeroValue127 }
open Go.RowKit Go.Maps Go.Sort in
theorem Tryz.sorts180 (m:Nat):AnyZ.SortsIn Tryz.prog Tryz.sorted180_ren Fence.wide m :=
 ⟨fun blk off cap ss W hH hblk hsz => callsIn_wide.2 (AnyM.slices_Sort_string Tryz.sort207 blk off cap ss W hH hblk hsz),
  fun p cap W => callsIn_wide.2 (AnyM.slices_Sort_string_none Tryz.sort207 p cap W)⟩
open Go.RowKit Go.Maps Go.Sort in
theorem Tryz.maps_Keys_181 (mb:Option Nat) (W:World):CallsIn Fence.wide 5 Tryz.prog 181 #[.map mb] W fun e w' => e=.returned (.func (.func 208) #[] #[.pointer (some ⟨W.heap.size,0,none⟩)])/\w'=W.alloc (.cells #[.map mb] 140) :=
 AnyZ.keys_in Tryz.keys181 Fence.wide 5 trivial rfl mb W
open Go.RowKit Go.Maps Go.Sort in
theorem Tryz.slices_Sorted_keys_180_181 {H:Type} (b nn:Nat) (D0:DataW H) (R:Value->Option (DataW H × List MemPlace)) (w:World) (hown:w.ownsMap Tryz.prog 9 R b nn D0) (hmax:Maps.size D0<=maxLen) (hbytes:Maps.size D0 * 16<=140737488355328) :
  CallsIn Fence.wide 5 Tryz.prog 180 #[.func (.func 208) #[] #[.pointer (some ⟨w.heap.size,0,none⟩)]] (w.alloc (.cells #[.map (some b)] 140)) fun e w' => ∃ (v:Value) (ss:List (List UInt8)),e=.returned v/\ss.Perm (strKeys D0) ∧
   w'.ownsRow (w.alloc (.cells #[.map (some b)] 140)).heap.size 9 1 v ss.length ((ss.mergeSort (fun x y => decide (x<=y))).map encStr)/\(v=.slice none 0 0 ↔ ss=[])/\Below (w.alloc (.cells #[.map (some b)] 140)).heap.size (w.alloc (.cells #[.map (some b)] 140)) w':=by
 have hbl:=hown.lt
 have hseq:SeqGives Fence.wide 2 Tryz.prog 208 #[.pointer (some ⟨w.heap.size,0,none⟩)] encStr (fun ss => ss.Perm (strKeys D0)) (Maps.size D0) (w.alloc (.cells #[.map (some b)] 140)) :=
  AnyZ.keys_gives (ρ:=Tryz.keys181_ren) { Tryz.keys181 with } Fence.wide _ trivial rfl (by omega) w.heap.size b nn D0 _ (by simp) (by simp) (by
   obtain ⟨es,clock,hb,Ft,hs,hD⟩:=hown
   exact ⟨es,clock,(Below.heap_alloc _ _ b hbl).trans hb,Ft,hs,hD⟩)
 exact AnyZ.sorted_in Tryz.sorted180 Fence.wide 5 trivial trivial trivial trivial rfl (by omega) (Tryz.sorts180 _) (enters_of Tryz.func207 (by kernel_rfl) rfl) 208 #[.pointer (some ⟨w.heap.size,0,none⟩)] trivial (enters_of Tryz.func208 (by kernel_rfl) rfl) _ _ hmax hbytes _ hseq
end Go.Proofs
namespace Go.Proofs.YtdefaeieiaegaaaGreatDoor.NmO
open Go.RowKit Go.Shelf Go.Maps
open ExM NmM Kit ExL ExV ExN NmV
set_option linter.unusedVariables false
attribute [local go_sem] Oper.semAt_some
def lits (l:List Nm):List Lit:=(bare l).map fun s => Lit.string s.data.toList
def seenD {H:Type} (l:List Nm):DataW H:=setOf (.lit (.bool true)) (lits l)
theorem seenD_snoc {H:Type} (pre:List Nm) (x:Nm):seenD (H:=H) (pre ++ [x])=(seenD pre).put (.string x.1.data.toList) (.lit (.bool true)):=by
 unfold seenD setOf lits
 rw [bare_append,List.map_append,List.foldl_append]; rfl
def bytesL (l:List ByteArray):List Bs:=l.map fun s => s.data.toList
theorem has_seen {H:Type} (l:List Nm) (x:Bs):has (seenD (H:=H) l) (.string x)=true ↔ x ∈ bytesL (bare l):=by
 unfold seenD
 rw [has_setOf _ _ _ (fun y hy => by
  unfold lits at hy
  obtain ⟨s,_,rfl⟩:=List.mem_map.1 hy
  trivial),List.any_eq_true]
 unfold lits bytesL
 constructor
 ·rintro ⟨y,hy,he⟩
  obtain ⟨s,hs,rfl⟩:=List.mem_map.1 hy
  have e:s.data.toList=x:=by simpa [Lit.sameKey] using he
  exact List.mem_map.2 ⟨s,hs,e⟩
 ·intro h
  obtain ⟨s,hs,rfl⟩:=List.mem_map.1 h
  exact ⟨_,List.mem_map.2 ⟨s,hs,rfl⟩,by simp [Lit.sameKey]⟩
theorem sorted_seen {H:Type} {w:World} {R:Value->Option (DataW H × List MemPlace)} {b n:Nat} {l:List Nm} (hown:w.ownsMap Tryz.prog 9 R b n (seenD l)) {ss:List Bs} (hp:ss.Perm (strKeys (seenD (H:=H) l))) :
  ss.mergeSort (fun x y => decide (x<=y))=rise (bytesL (bare l))/\ss.length=(rise (bytesL (bare l))).length:=by
 have hc:Collected (seenD (H:=H) l) (fun _ => false) (rise (bytesL (bare l))):=⟨rise_nodup _,fun x => by rw [rise_mem,has_seen]; simp⟩
 have h1:=hc.perm hown (string_keyed Tryz.underlying9) Tryz.underlying9 (fun _ => rfl)
 have h2:ss.Perm (rise (bytesL (bare l))):=hp.trans h1.symm
 exact ⟨rise_unique _ _ (h2.nodup_iff.2 (rise_nodup _)) (fun x => by rw [h2.mem_iff,rise_mem]),h2.length_eq⟩
def ofL (x:Ex):List Bs:=if x.checkE=0 then rise (bytesL (Ex.refs x)) else []
def StrsOut (L:List Bs) (R:Int) (w:World) (e:Ending) (w':World):Prop :=
 ∃ v:Value,e=.returned (.tuple #[v,.int .i64 R])/\w'.ownsRow w.heap.size 9 1 v L.length (L.map encStr)/\Below w.heap.size w w'
theorem boxP {w:World} (o0 o1 o2:Obj):(((w.alloc o0).alloc o1).alloc o2).heap[w.heap.size]?=some o0/\(((w.alloc o0).alloc o1).alloc o2).heap[w.heap.size + 1]?=some o1/\(((w.alloc o0).alloc o1).alloc o2).heap[w.heap.size + 1 + 1]?=some o2:=by
 have a0:=World.alloc_heap_new w o0
 have a1:=World.alloc_heap_new (w.alloc o0) o1
 have a2:=World.alloc_heap_new ((w.alloc o0).alloc o1) o2
 simp only [World.size_alloc] at a1 a2
 have k:=fun (v:World) (o:Obj) (b:Nat) (x:Obj) (h:v.heap[b]?=some x) => ((b_new v o).block b (Array.getElem?_eq_some_iff.1 h).1).trans h
 exact ⟨k _ _ _ _ (k _ _ _ _ a0),k _ _ _ _ a1,a2⟩
set_option maxRecDepth 100000 in
set_option maxHeartbeats 4000000 in
theorem of_any (x:Ex) (d:Nd) (A:Option Addr) (m c:Nat) (w:World) (his:Is w x d A m) (hT:Tab w) :
  Calls Tryz.prog 136 #[.agg #[.int .i64 d.op,.int .i64 d.k,.int .i64 d.n,.string d.s,.string d.nm,.slice A m c]] w (StrsOut (ofL x) x.checkE w):=by
 refine (callsIn_wide (n:=6)).1 ?_
 obtain ⟨R,hR⟩:∃ R,x.checkE=R:=⟨_,rfl⟩
 have hx6:R=0->x.nodes<=60:=fun h => (checkE_zero (by rw [hR,h])).1
 have hL:ofL x=if R=0 then rise (bytesL (Ex.refs x)) else []:=by unfold ofL; rw [hR]
 have hrl:=refs_len x
 rw [hR]
 have hck:=fun V (hb:Below w.heap.size w V) => ExC.check_any x d A m c V (his.below hb) (hT.below hb)
 rw [hR] at hck
 have HC:=Lib.hid hck
 have HIs:=Lib.hid his
 have HL:=Lib.hid hL
 have HX:=Lib.hid hx6
 have hmm:=@run_makeMap Tryz.prog
 clear his hR hT hck hL hx6
 refine callsIn_of_wp_marks Tryz.func136 rfl trivial ?_ rfl
 simp only [Tryz.ntmps136,List.size_toArray,List.length_cons,List.length_nil,Nat.reduceAdd,Nat.reduceSub,Array.replicate_succ,Array.replicate_zero,List.push_toArray,List.append_toArray,List.nil_append,List.cons_append]
 gi_wp2_with fail
 refine ⟨trivial,?_⟩
 refine ((callsIn_wide (n:=5)).2 (HC.out _ (b_new w _))).mono ?_
 rintro e w1 ⟨rfl,hb⟩
 have k0:Box w1 w.heap.size d A m c:=(Box.new w d A m c).below hb
 have hb1:Below w.heap.size w w1:=b_then hb
 obtain ⟨c0,c1,c2,c3,c4,c5⟩:=k0.cells
 have hl0:=k0.lt
 have HB1:=Lib.hid hb1
 clear hb hb1 k0
 by_cases h0:R=0
 ·subst h0
  have hL:=HL.out
  rw [if_pos rfl] at hL
  have HL2:=Lib.hid hL
  have h60:=HX.out rfl
  clear hL HL HX
  gi_wp2_with (refine ⟨trivial,?_⟩; gi_at_call 179; refine (refs_in Fence.wide _ trivial rfl d A m c _).mono ?_; rintro e w' ⟨rfl,rfl⟩)
  have hm0:=World.ownsMap_made w1 Tryz.prog 9 (plainElem (H:=Unit) Tryz.prog 4)
  have hbx:=boxP (w:=w1) (.map #[] 0) (.cells #[.map (some w1.heap.size)] 140) (.cells #[.int .i64 d.op,.int .i64 d.k,.int .i64 d.n,.string d.s,.string d.nm,.slice A m c] 50)
  have hbB:Below w.heap.size w (((w1.alloc (.map #[] 0)).alloc (.cells #[.map (some w1.heap.size)] 140)).alloc (.cells #[.int .i64 d.op,.int .i64 d.k,.int .i64 d.n,.string d.s,.string d.nm,.slice A m c] 50)):=HB1.out.trans ((b_more (b_more (b_new _ _) _) _).mono HB1.out.size)
  have hm1:=(hm0.alloc (.cells #[.map (some w1.heap.size)] 140)).alloc (.cells #[.int .i64 d.op,.int .i64 d.k,.int .i64 d.n,.string d.s,.string d.nm,.slice A m c] 50)
  obtain ⟨W0,hW0⟩:∃ W0,(((w1.alloc (.map #[] 0)).alloc (.cells #[.map (some w1.heap.size)] 140)).alloc (.cells #[.int .i64 d.op,.int .i64 d.k,.int .i64 d.n,.string d.s,.string d.nm,.slice A m c] 50))=W0:=⟨_,rfl⟩
  rw [hW0] at hbx hbB hm1 ⊢
  have hsz:W0.heap.size=w1.heap.size + 3:=by rw [← hW0]; simp
  have hls:=HB1.out.size
  clear hW0 hm0 c0 c1 c2 c3 c4 c5
  have hsz1:w1.heap.size + 3<=W0.heap.size:=by omega
  have hsz2:W0.heap.size<=w1.heap.size + 3:=by omega
  clear hsz
  obtain ⟨_,hq1,hq2⟩:=hbx
  refine wpIn_rangeFunc_ownG rfl (by decide) (gf:=204) (lb:=#[.pointer (some ⟨w1.heap.size + 1 + 1,0,none⟩)]) rfl trivial (enters_of Tryz.func204 (by kernel_rfl) rfl)
   (refs_stops Fence.wide rfl trivial trivial rfl _ (w1.heap.size + 1 + 1) w W0 x d A m c HIs.out hbB hq2) Kp.trans (fun W l o o' hl ho hc _ => kp_putObj W l o o' (by omega) ho hc) (Below.refl _ _) (fun _ => rfl)
   (fun pre W => ((W.cell? ⟨w1.heap.size + 1,0,none⟩=some (.map (some w1.heap.size)))/\W.ownsMap Tryz.prog 9 (plainElem (H:=Unit) Tryz.prog 4) w1.heap.size pre.length (seenD pre))/\Below w.heap.size w W)
   (fun _ _ _ => False)
   (OwnFrom.and (fun s A B row hs hg hr => ⟨cell_kept hs.1 hg (fun r e => (hr r e).2),hs.2.kept hg (fun e => by have:=(hr _ e.symm).1; omega)⟩) (ownFrom_below (Nat.le_refl _) (by omega)))
   (fun _ _ _ _ _ hs _ _ => hs)
   ⟨⟨Boxed.cell (t:=140) hq1,hm1⟩,hbB⟩
   (fun y => { tmps:=#[.agg #[.int .i64 d.op,.int .i64 d.k,.int .i64 d.n,.string d.s,.string d.nm,.slice A m c],.pointer (some ⟨w.heap.size,0,none⟩),.slice none 0 0,.int .i64 0,.int .i64 0,.pointer (some ⟨w1.heap.size + 1,0,none⟩),.string y.1,.agg #[.int .i64 d.op,.int .i64 d.k,.int .i64 d.n,.string d.s,.string d.nm,.slice A m c],.int .i64 0,.int .i64 0,.bool false,undef,.map (some w1.heap.size),.agg #[.int .i64 d.op,.int .i64 d.k,.int .i64 d.n,.string d.s,.string d.nm,.slice A m c],.func (.func 204) #[] #[.pointer (some ⟨w1.heap.size + 1 + 1,0,none⟩)],.string y.1,undef,undef,undef,undef,undef],defers:=[] }) ?assign ?body ?done ?stop
  case assign =>
   intro l y W K hK
   gi_wp2
   simpa [NmV.encs] using hK
  case body =>
   rintro l pre y W ⟨⟨hc,hown⟩,hB⟩ hlt
   gi_wp2_with (gi_at_mapUpdate; refine wpListIn_mapUpdate_own _ rfl _ _ _ 140 rfl 9 4 (string_keyed Tryz.underlying9) Tryz.underlying140 _ w1.heap.size pre.length _ rfl hown (by unfold maxLen; omega) _ _ _ rfl rfl (WideMaps.keyOf_string_mk Tryz.underlying9 y.2) _ [] (plainElem_bool Tryz.underlying4 true) ?_; intro w2 hown1 hgrow1)
   obtain ⟨es,ck,hh,_⟩:=hown
   have hwB:=hB.size
   exact ⟨KeepsFrom.of_grownBy hgrow1 (fun j e => by cases e; omega),⟨(Below.refl _ W).grown hgrow1 hB.size (fun k e => by cases e; exact hls),fun b o hb ho _ => by
     rw [hgrow1.block b (Array.getElem?_eq_some_iff.1 ho).1 (fun e => by cases e; omega)]; exact ho⟩,
    ⟨cell_kept hc hgrow1 (fun r e => by cases e; exact ⟨_,hh,rfl⟩),by rw [seenD_snoc,List.length_append]; exact hown1⟩,hB.grown hgrow1 hB.size (fun k e => by cases e; exact hls)⟩
  case done =>
   rintro D ys W hD hys ⟨⟨hc,hown⟩,hB⟩ hK
   have hyl:ys.length<=60:=by
    have e1:ys.length=(Ex.refs x).length:=by rw [← hys,bare_len]
    omega
   have hsl:=hown.size_le
   have hfK:Fence.wide.fn 181:=trivial
   have hfS:Fence.wide.fn 180:=trivial
   have hKb:=(Array.getElem?_eq_some_iff.1 hK).1
   have HY:=Lib.hid hys
   have HO:=Lib.hid hown
   clear hys
   gi_wp2_with (first | (gi_at_call 181; refine (Tryz.maps_Keys_181 _ _).mono ?_; rintro e w' ⟨rfl,rfl⟩) | (gi_at_call 180; refine (Tryz.slices_Sorted_keys_180_181 w1.heap.size ys.length (seenD ys) _ W HO.out (by unfold maxLen; omega) (by omega)).mono ?_; rintro e w3 ⟨v,ss,rfl,hS,hrow,hnil,hb3⟩))
   have hK2:(W.alloc (.cells #[.map (some w1.heap.size)] 140)).heap[D]?=some (.deferred (some [])):=((b_new W _).block D hKb).trans hK
   have hK3:w3.heap[D]?=some (.deferred (some [])):=(hb3.block D (by simp; omega)).trans hK2
   refine ⟨by simp,.inl ⟨_,_,rfl,run_takeDeferred hK3,?_⟩⟩
   obtain ⟨hs1,hs2⟩:=sorted_seen HO.out hS
   rw [HY.out] at hs1 hs2
   rw [hs1,hs2] at hrow
   have hbW:Below w.heap.size w w3:=hB.trans ((b_then hb3).mono hB.size)
   refine ⟨_,results_tmp2 rfl _ _ _,v,rfl,?_,hbW.trans (belowK_b (w:=w) (Nat.le_refl _) w3 D _ _ (by omega) hK3 rfl rfl)⟩
   rw [HL2.out]
   have hsW:=hB.size
   exact ownsRow_putObj (ownsRow_base_a hrow (by simp; omega)) _ hK3 rfl
  case stop =>
   rintro D cd pre W hD hpre h hK
   exact h.elim
 ·have t1:(R != 0)=true:=bne_iff_ne.2 h0
  have hL:=HL.out
  rw [if_neg h0] at hL
  have HL2:=Lib.hid hL
  clear h0 hL HL HX
  gi_wp2_with fail
  refine ⟨_,results_tmp2 rfl _ _ _,?_⟩
  exact ⟨.slice none 0 0,rfl,by rw [HL2.out]; exact World.ownsRow_nil _ _ _ _,HB1.out⟩
end Go.Proofs.YtdefaeieiaegaaaGreatDoor.NmO
namespace Go.Proofs.YtdefaeieiaegaaaGreatDoor.NmA
open Go.RowKit
open ExM NmM Kit ExL ExP ExV NmC NmP NmR
set_option linter.unusedVariables false
end Go.Proofs.YtdefaeieiaegaaaGreatDoor.NmA
namespace Go.Proofs.YtdefaeieiaegaaaGreatDoor.NmI
open Go.RowKit
open ExM NmM Kit ExL ExP ExV NmC NmP NmR NmA NmO
set_option linter.unusedVariables false
def mkB (b:Bs):ByteArray:=⟨b.toArray⟩
def mkL (M:List Bs):List ByteArray:=M.map mkB
theorem mkL_len (M:List Bs):(mkL M).length=M.length:=List.length_map _

theorem enc_at (M:List Bs) (j:Nat) (h:j < M.length):(M.map encStr)[j]?=some (.string (mkB M[j])):=by rw [List.getElem?_map,List.getElem?_eq_getElem h]; rfl
end Go.Proofs.YtdefaeieiaegaaaGreatDoor.NmI
namespace Go.Proofs.YtdefaeieiaegaaaGreatDoor.NmT
open Go.RowKit
open ExM NmM Kit ExL ExP ExV NmC NmP NmR NmA NmO NmI
set_option linter.unusedVariables false
end Go.Proofs.YtdefaeieiaegaaaGreatDoor.NmT
