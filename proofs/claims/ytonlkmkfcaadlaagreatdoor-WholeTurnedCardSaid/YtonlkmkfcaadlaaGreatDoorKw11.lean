/- Wh3 FldCheck: what these laws name of them. -/
import Derived.Deep.DeepCutAuto
import Derived.Test.YtonlkmkfcaadlaaGreatDoorKw10
namespace Go.Proofs.YtonlkmkfcaadlaaGreatDoor
set_option linter.unusedVariables false
namespace Wh3
open Go.RowKit Go.Maps
open ValM LexM NumM ExM NmM StrM EvM EvP FoM Kit ExL ExP ExN RawV Within RawL GenL TyM Ty EvF EvO EvE FrmM FldP FcM ShF WhM WhQ WhU Wh1 Wh2 SMp KMp
set_option linter.unusedVariables false
theorem is_old {w:World}:∀ (x:Ex) (d:Nd) (A:Option Addr) (n:Nat),Is w x d A n->IsP (fun b => b < w.heap.size) w x d A n:=by
 refine Ex.ind fun d l ih => ?_
 intro d' A n h
 rw [is_mk] at h
 rw [isP_mk]
 obtain ⟨h1,h2,h3,h4⟩:=h
 refine ⟨h1,h2,h3,fun j hj => ?_⟩
 obtain ⟨a,d2,B,m,c,e,ha,hi⟩:=h4 j hj
 have hlt:=ha.lt
 rw [block_of_add] at hlt
 exact ⟨a,d2,B,m,c,e,hlt,ha,ih _ (List.getElem_mem _) _ _ _ hi⟩
theorem sm_block {W W':World} {m n:Nat} {M:ByteArray->Option Value} (h:SM W m n M) (hb:W'.heap[m]?=W.heap[m]?):SM W' m n M:=by
 obtain ⟨D,⟨es,clock,h1,F,hs,hD⟩,hall⟩:=h.own
 exact ⟨D,⟨es,clock,hb.trans h1,F,hs,hD⟩,hall⟩
def toE (f:GenL.Fd):FE:=⟨f.nm,f.kind,f.ty,.mk f.d [],f.A,f.n,f.c⟩
theorem toE_map (L:List GenL.Fd):(L.map toE).map FE.fd=L:=by
 rw [List.map_map]
 have:(FE.fd ∘ toE)=id:=funext fun f => rfl
 rw [this,List.map_id]
theorem feC_snoc' (G:List GenL.Fd) (f:GenL.Fd):feC ((G ++ [f]).map toE)=feC (G.map toE) ++ fdC f:=by
 rw [List.map_append,feC_app]
 show _ ++ (fdC (toE f).fd ++ [])=_
 rw [List.append_nil]; rfl
theorem infoFd3:(Tryz.prog.info? 43).map (fun i => (i.zero,i.size,i.bytes))=some (some (.agg #[.string ⟨#[]⟩,.int .i64 0,.int .i64 0,.int .i64 0,.int .i64 0,.int .i64 0,.string ⟨#[]⟩,.string ⟨#[]⟩,.slice none 0 0]),9,112):=by kernel_rfl
theorem usedL_succ (F:List GenL.Fd) (l:List Ex) (k:Nat) (h:k < l.length):usedL F (l.take (k + 1))=usedL F (l.take k) ++ usedF F l[k]:=by
 have hte:l.take (k + 1)=l.take k ++ [l[k]]:=List.take_succ_eq_append_getElem h
 have key:∀ a b:List Ex,usedL F (a ++ b)=usedL F a ++ usedL F b:=fun a b => by
  unfold usedL
  induction a with
  | nil => rw [refsL_nil]; rfl
  | cons x a ih => rw [List.cons_append,refsL_cons,refsL_cons,List.flatMap_append,List.flatMap_append,ih,List.append_assoc]
 rw [hte,key]
 congr 1
 unfold usedL usedF
 rw [refsL_cons,refsL_nil,List.append_nil]
theorem pick_len (F:List GenL.Fd) (s:ByteArray):(pickF F s).length<=1:=by unfold pickF; split <;> simp
theorem flat_len (F:List GenL.Fd):∀ L:List ByteArray,(L.flatMap (pickF F)).length<=L.length
 | [] => by simp
 | s :: L => by
  have:=flat_len F L
  have:=pick_len F s
  rw [List.flatMap_cons,List.length_append,List.length_cons]; omega
theorem refsL_take (l:List Ex) (k:Nat) (h:k < l.length):(refsL (l.take k)).length + (Ex.refs l[k]).length<=(refsL l).length:=by
 have e:l=l.take k ++ l[k] :: l.drop (k + 1):=by
  rw [← List.drop_eq_getElem_cons h,List.take_append_drop]
 have key:∀ a b:List Ex,refsL (a ++ b)=refsL a ++ refsL b:=fun a b => by
  induction a with
  | nil => rw [refsL_nil]; rfl
  | cons x a ih => rw [List.cons_append,refsL_cons,refsL_cons,ih,List.append_assoc]
 have h2:(refsL l).length=(refsL (l.take k)).length + ((Ex.refs l[k]).length + (refsL (l.drop (k + 1))).length):=by
  conv => lhs; rw [e]
  rw [key,refsL_cons,List.length_append,List.length_append]
 omega
def UsedOut (F:List GenL.Fd) (base:Nat) (G:List GenL.Fd) (w:World) (e:Ending) (w':World):Prop :=
 ∃ v',e=.returned v'/\w'.ownsRow base 43 9 v' G.length (feC (G.map toE))/\Below base w w'
def UsedAt (F:List GenL.Fd) (N m base:Nat) (x:Ex):Prop:=∀ (d:Nd) (A:Option Addr) (n c:Nat) (w:World) (v0:Value) (G:List GenL.Fd),IsP (fun b => b < base) w x d A n->SM w m N (nmdM F F.length)->m < base->base<=w.heap.size->w.ownsRow base 43 9 v0 G.length (feC (G.map toE))->G.length + (Ex.refs x).length<=1000000000 →
 Calls Tryz.prog 130 #[v0,.agg #[.int .i64 d.op,.int .i64 d.k,.int .i64 d.n,.string d.s,.string d.nm,.slice A n c],.map (some m)] w (UsedOut F base (G ++ usedF F x) w)
set_option maxRecDepth 100000 in
set_option maxHeartbeats 8000000 in
theorem used_any (F:List GenL.Fd) (N m base:Nat):∀ x:Ex,UsedAt F N m base x:=by
 obtain ⟨i0,hi,hz0,hz1,hz2⟩:=info_parts infoFd3
 refine Ex.ind fun d l ih => ?_
 intro d' A n c w v0 G his hsm hmb hbs hown hlen
 rw [isP_mk] at his
 obtain ⟨rfl,rfl,⟨hnm0,_,hnms⟩,hrow⟩:=his
 have hrl:(Ex.refs (.mk d' l)).length=(if d'.op=2 then 1 else 0) + (refsL l).length:=by
  rw [refs_mk,List.length_append]
  by_cases h:d'.op=2
  ·rw [if_pos h,if_pos h]; rfl
  ·rw [if_neg h,if_neg h]; rfl
 have hnl:l.length<=9223372036854775807:=Nat.le_trans hnm0 (by unfold maxLen; decide)
 obtain ⟨W1,hW1⟩:∃ V,w.alloc (.cells #[.int .i64 d'.op,.int .i64 d'.k,.int .i64 d'.n,.string d'.s,.string d'.nm,.slice A l.length c] 41)=V:=⟨_,rfl⟩
 obtain ⟨B1,hB1⟩:∃ B,w.heap.size=B:=⟨_,rfl⟩
 have hb1:=b_new w (.cells #[.int .i64 d'.op,.int .i64 d'.k,.int .i64 d'.n,.string d'.s,.string d'.nm,.slice A l.length c] 41)
 have hblk:=World.alloc_heap_new w (.cells #[.int .i64 d'.op,.int .i64 d'.k,.int .i64 d'.n,.string d'.s,.string d'.nm,.slice A l.length c] 41)
 rw [hW1] at hb1 hblk
 rw [hB1] at hblk
 have hlk:=look_fd (hsm.below hb1) d'.nm hnms
 have hcell:∀ V:World,V.heap[B1]?=W1.heap[B1]?->V.cell? ⟨B1,0,none⟩=some (.int .i64 d'.op)/\V.cell? ⟨B1,4,none⟩=some (.string d'.nm)/\V.cell? ⟨B1,5,none⟩=some (.slice A l.length c):=fun V hV => by
  have e1:=hV.trans hblk
  exact ⟨by simp [World.cell?,e1],by simp [World.cell?,e1],by simp [World.cell?,e1]⟩
 obtain ⟨x0,x4,x5⟩:=hcell W1 rfl
 have hown1:=hown.alloc (.cells #[.int .i64 d'.op,.int .i64 d'.k,.int .i64 d'.n,.string d'.s,.string d'.nm,.slice A l.length c] 41)
 rw [hW1] at hown1
 have hbb1:base<=B1:=by omega
 have hvlt:∀ q,v0.ownBlock=some q->base<=q/\q < B1:=fun q e => by have:=hown.lt q e; omega
 -- behind the head: the rest of the walk,at whatever list stands then
 have hrest:∀ (V:World) (v1:Value) (G1:List GenL.Fd),V.ownsRow base 43 9 v1 G1.length (feC (G1.map toE))->Below base w V->G1.length + (refsL l).length<=1000000000->(V.ownsRow base 43 9 v1 (G1 ++ usedL F (l.take 0)).length (feC ((G1 ++ usedL F (l.take 0)).map toE)))/\Below base w V:=fun V v1 G1 h1 h2 _ => by
  have e:usedL F (l.take 0)=[]:=by rw [List.take_zero]; unfold usedL; rw [refsL_nil]; rfl
  rw [e,List.append_nil]
  exact ⟨h1,h2⟩
 have hel:∀ (V:World),Below base w V->∀ (k:Nat) (hk:k < l.length),∃ a d B n c,A=some a/\At V (a.add (k * 6)) d B n c/\IsP (fun b => b < base) V l[k] d B n:=fun V hV k hk => by
  obtain ⟨a,d,B,n,c,e,hp,ha,hi⟩:=hrow k hk
  have hlt:=ha.lt
  exact ⟨a,d,B,n,c,e,At.of_block ha (hV.block _ (by rw [block_of_add]; exact hp)),IsP.keep (fun b hb _ => hV.block b hb) (fun _ h _ => h) _ _ _ _ hi⟩
 have hsmV:∀ V:World,Below base w V->SM V m N (nmdM F F.length):=fun V hV => sm_block hsm (hV.block m hmb)
 have hflL:∀ k,(usedL F (l.take k)).length<=(refsL (l.take k)).length:=fun k => flat_len F _
 have HIh:=Lib.hid ih
 have HEl:=Lib.hid hel
 have HSmV:=Lib.hid hsmV
 have HCell:=Lib.hid hcell
 have HW1:=Lib.hid hW1
 have HB1:=Lib.hid hB1
 have HOwn1:=Lib.hid hown1
 have Hb1:=Lib.hid (hb1.mono hbs)
 have HFl:=Lib.hid hflL
 clear ih hel hsmV hcell hW1 hB1 hown1 hb1 hown hrow hsm hflL hblk hrest
 rw [hrl] at hlen
 -- the walk behind the head
 have hU:∀ G1:List GenL.Fd,G1 ++ usedL F (l.take l.length)=G1 ++ usedL F l:=fun G1 => by rw [List.take_length]
 have hu0:usedL F (l.take 0)=[]:=by rw [List.take_zero]; unfold usedL; rw [refsL_nil]; rfl
 have HU:=Lib.hid hU
 have HU0:=Lib.hid hu0
 clear hU hu0
 by_cases hf:atF F d'.nm < F.length
 ·rw [nmd_all hf] at hlk
  have hpk:pickF F d'.nm=[F[atF F d'.nm]]:=by unfold pickF; rw [dif_pos hf]
  obtain ⟨g,hg⟩:∃ g,F[atF F d'.nm]=g:=⟨_,rfl⟩
  rw [hg] at hlk hpk
  have hlk2:(Instr.lookup 147 (.map (some m)) (.string d'.nm) true).run Tryz.prog W1=.ok (.tuple #[.agg #[.string g.nm,.int .i64 g.kind,.int .i64 g.ty,.int .i64 g.d.op,.int .i64 g.d.k,.int .i64 g.d.n,.string g.d.s,.string g.d.nm,.slice g.A g.n g.c],.bool true]) W1:=hlk
  clear hlk hg hf
  obtain ⟨W2,hW2⟩:∃ V,W1.alloc (ShF.fdBox g)=V:=⟨_,rfl⟩
  obtain ⟨B2,hB2⟩:∃ B,W1.heap.size=B:=⟨_,rfl⟩
  have hcg:=fd_cells9 W1 g
  have hb2:=b_new W1 (ShF.fdBox g)
  rw [hW2] at hcg hb2
  rw [hB2] at hcg
  obtain ⟨q0,q1,q2,q3,q4,q5,q6,q7,q8⟩:=hcg W2 (Below.refl _ _)
  have hB12:B1 < W1.heap.size:=by rw [← HW1.out,World.size_alloc,HB1.out]; omega
  obtain ⟨x0b,x4b,x5b⟩:=HCell.out W2 (hb2.block B1 hB12)
  have hown2:=HOwn1.out.alloc (ShF.fdBox g)
  rw [hW2] at hown2
  have hbw2:Below base w W2:=Hb1.out.trans (hb2.mono (Nat.le_trans hbs Hb1.out.size))
  have hB2w:B1 < B2:=by omega
  have HOwn2:=Lib.hid hown2
  have HW2:=Lib.hid hW2
  have HB2:=Lib.hid hB2
  have HBw2:=Lib.hid hbw2
  clear hown2 hW2 hB2 hbw2 hcg hb2 hB12
  unfold ShF.fdBox at HW2
  by_cases hop:d'.op=2
  ·have t1:(d'.op == 2)=true:=beq_iff_eq.2 hop
   rw [if_pos hop] at hlen
   have hge:G ++ usedF F (.mk d' l)=(G ++ [g]) ++ usedL F l:=by rw [usedF_mk,if_pos hop,hpk,List.append_assoc]
   have HGe:=Lib.hid hge
   clear hge hop hpk
   obtain ⟨G1,hG1⟩:∃ L,G ++ [g]=L:=⟨_,rfl⟩
   have hgl:G1.length=G.length + 1:=by rw [← hG1,List.length_append]; rfl
   have hgc:feC (G.map toE) ++ [.string g.nm,.int .i64 g.kind,.int .i64 g.ty,.int .i64 g.d.op,.int .i64 g.d.k,.int .i64 g.d.n,.string g.d.s,.string g.d.nm,.slice g.A g.n g.c]=feC (G1.map toE):=by rw [← hG1,feC_snoc']; rfl
   rw [hG1] at HGe
   have HGc:=Lib.hid hgc
   clear hgc hG1
   have hb3:base<=(W2.alloc (.cells #[.string g.nm,.int .i64 g.kind,.int .i64 g.ty,.int .i64 g.d.op,.int .i64 g.d.k,.int .i64 g.d.n,.string g.d.s,.string g.d.nm,.slice g.A g.n g.c] 43)).heap.size:=by rw [World.size_alloc]; have:=HBw2.out.size; omega
   have hnl2:G.length<=1000000000:=by omega
   go_enter Tryz.func130,Tryz.ntmps130
   go_upto_region 1 with fail
   rw [HW1.out,HB1.out]
   go_upto_region 2 with fail
   rw [HW2.out,HB2.out]
   go_wp2_with (at_builtin; refine wpList_append_lies _ rfl _ _ 23 rfl base 43 i0 _ 9 112 Tryz.underlying23 hi hz0 hz1 hz2 rfl (by decide) v0 G.length (feC (G.map toE)) rfl (HOwn2.out.alloc _) ⟨W2.heap.size,0,none⟩ 1 1 [.string g.nm,.int .i64 g.kind,.int .i64 g.ty,.int .i64 g.d.op,.int .i64 g.d.k,.int .i64 g.d.n,.string g.d.s,.string g.d.nm,.slice g.A g.n g.c] rfl rfl (World.news_of_block (cs:=#[.string g.nm,.int .i64 g.kind,.int .i64 g.ty,.int .i64 g.d.op,.int .i64 g.d.k,.int .i64 g.d.n,.string g.d.s,.string g.d.nm,.slice g.A g.n g.c]) (t:=43) (fr:=(0,0)) (World.alloc_heap_new W2 _)) (by simp [Value.oneCell']) (by decide) (by unfold maxLen; omega) (by omega) hb3 (W2.heap.size + 1) (by simp) ?_)
   intro gg cap w6 hown6 hgrow6 hat6 hlt6
   rw [HGc.out,← hgl] at hown6
   have hbx:w6.heap[B1]?=W1.heap[B1]?:=by
    have hB1l:B1 < W1.heap.size:=by rw [← HW1.out,World.size_alloc,HB1.out]; omega
    have e0:=HBw2.out.size
    have hB1w2:B1 < W2.heap.size:=by have h1:=HB2.out; have h2:=HW2.out; rw [← h2,World.size_alloc]; omega
    have e1:=hgrow6.block B1 (by rw [World.size_alloc]; omega) (fun e => by have:=hvlt B1 e.symm; omega)
    rw [e1,(b_new W2 _).block B1 hB1w2,← HW2.out]
    exact (b_new W1 _).block B1 hB1l
   obtain ⟨z0,z4,z5⟩:=HCell.out w6 hbx
   have hbw6:Below base w w6:=(HBw2.out.trans ((b_new W2 _).mono (by have:=HBw2.out.size; omega))).grown hgrow6 hb3 (fun q e => (hvlt q e).1)
   have hgo:=hown6
   have e9:G1 ++ usedL F (l.take 0)=G1:=by rw [HU0.out,List.append_nil]
   have HGo:=Lib.hid (show w6.ownsRow base 43 9 (.slice (some ⟨gg,0,none⟩) G1.length cap) (G1 ++ usedL F (l.take 0)).length (feC ((G1 ++ usedL F (l.take 0)).map toE))/\Below base w w6 from ⟨by rw [e9]; exact hown6,hbw6⟩)
   rw [← hgl]
   have hlen2:G1.length + (refsL l).length<=1000000000:=by omega
   clear hown6 hgrow6 hat6 hlt6 hbw6 hgo e9 hbx hgl hlen
   go_wp2_with fail
   go_loopw [0,10,31] (fun s0 _ ii wr => ∃ (k:Nat) (v':Value),v'=s0/\ii=.int .i64 k/\k<=l.length/\wr.ownsRow base 43 9 v' (G1 ++ usedL F (l.take k)).length (feC ((G1 ++ usedL F (l.take k)).map toE))/\Below base w wr) (fun _ _ ii _ => l.length - (intOf ii).toNat)
   case atStart => exact ⟨0,_,rfl,rfl,Nat.zero_le _,HGo.out.1,HGo.out.2⟩
   case round =>
    obtain ⟨k,v,rfl,rfl,hk,hown,hb⟩:=hrel
    obtain ⟨wa,rfl⟩:∃ V,V=wr:=⟨_,rfl⟩
    by_cases hlt:k < l.length
    ·obtain ⟨ad,ed,eB,en,ec,rfl,hat,hi9⟩:=HEl.out wa hb k hlt
     obtain ⟨W9,hW9⟩:∃ V,wa.alloc (.cells #[.int .i64 ed.op,.int .i64 ed.k,.int .i64 ed.n,.string ed.s,.string ed.nm,.slice eB en ec] 41)=V:=⟨_,rfl⟩
     obtain ⟨B9,hB9⟩:∃ B,wa.heap.size=B:=⟨_,rfl⟩
     have hb9:=b_new wa (.cells #[.int .i64 ed.op,.int .i64 ed.k,.int .i64 ed.n,.string ed.s,.string ed.nm,.slice eB en ec] 41)
     have hblk9:=World.alloc_heap_new wa (.cells #[.int .i64 ed.op,.int .i64 ed.k,.int .i64 ed.n,.string ed.s,.string ed.nm,.slice eB en ec] 41)
     have hown9:=hown.alloc (.cells #[.int .i64 ed.op,.int .i64 ed.k,.int .i64 ed.n,.string ed.s,.string ed.nm,.slice eB en ec] 41)
     rw [hW9] at hb9 hblk9 hown9
     rw [hB9] at hblk9
     have hbs9:base<=W9.heap.size:=by have:=hb.size; have:=hb9.size; omega
     have hbw9:Below base w W9:=hb.trans (hb9.mono (by have:=hb.size; omega))
     have h1:=refsL_take l k hlt
     have h2:=HFl.out k
     have hcall:=HIh.out l[k] (List.getElem_mem hlt) ed eB en ec W9 v (G1 ++ usedL F (l.take k)) (hi9.below hb9) (HSmV.out W9 hbw9) hmb hbs9 hown9 (by rw [List.length_append]; omega)
     have eN:G1 ++ usedL F (l.take k) ++ usedF F l[k]=G1 ++ usedL F (l.take (k + 1)):=by rw [usedL_succ F l k hlt,List.append_assoc]
     rw [eN] at hcall
     have hc9:W9.cell? ⟨B9,0,none⟩=some (.int .i64 ed.op)/\W9.cell? ⟨B9,1,none⟩=some (.int .i64 ed.k)/\W9.cell? ⟨B9,2,none⟩=some (.int .i64 ed.n)/\W9.cell? ⟨B9,3,none⟩=some (.string ed.s)/\W9.cell? ⟨B9,4,none⟩=some (.string ed.nm)/\W9.cell? ⟨B9,5,none⟩=some (.slice eB en ec) :=
      ⟨by simp [World.cell?,hblk9],by simp [World.cell?,hblk9],by simp [World.cell?,hblk9],by simp [World.cell?,hblk9],by simp [World.cell?,hblk9],by simp [World.cell?,hblk9]⟩
     obtain ⟨y0,y1,y2,y3,y4,y5⟩:=hc9
     obtain ⟨q0,q1,q2,q3,q4,q5⟩:=hat
     have HCall:=Lib.hid hcall
     have HBw9:=Lib.hid hbw9
     have HW9:=Lib.hid hW9
     have HB9:=Lib.hid hB9
     clear hcall hbw9 hW9 hB9 hb9 hblk9 hown9 hown hb hi9 eN h1 h2
     go_upto_region 7 with fail
     rw [HW9.out,HB9.out]
     go_wp2_with fail
     refine HCall.out.mono ?_; rintro e w1 ⟨v2,rfl,ho2,hb2⟩
     have HN:=Lib.hid (And.intro ho2 (HBw9.out.trans hb2))
     clear ho2 hb2
     go_wp2_with fail
     go_roundw
     case rel => exact ⟨k + 1,v2,rfl,by go_num,by omega,HN.out.1,HN.out.2⟩
     case measure => simp [intOf]; omega
    ·have ek:k=l.length:=by omega
     subst ek
     rw [HU.out] at hown
     have HN:=Lib.hid (show UsedOut F base (G ++ usedF F (.mk d' l)) w (.returned v) wa from ⟨v,rfl,by rw [HGe.out]; exact hown,hb⟩)
     clear hown hb
     go_wp2_with fail
     go_ret
     exact HN.out
  ·have t1:(d'.op == 2)=false:=beq_eq_false_iff_ne.2 hop
   rw [if_neg hop] at hlen
   have hge:G ++ usedF F (.mk d' l)=G ++ usedL F l:=by rw [usedF_mk,if_neg hop]; rfl
   have HGe:=Lib.hid hge
   clear hge hop hpk
   obtain ⟨G1,rfl⟩:∃ L,L=G:=⟨_,rfl⟩
   have hlen2:G1.length + (refsL l).length<=1000000000:=by omega
   have e9:G1 ++ usedL F (l.take 0)=G1:=by rw [HU0.out,List.append_nil]
   have HGo:=Lib.hid (show W2.ownsRow base 43 9 v0 (G1 ++ usedL F (l.take 0)).length (feC ((G1 ++ usedL F (l.take 0)).map toE))/\Below base w W2 from ⟨by rw [e9]; exact HOwn2.out,HBw2.out⟩)
   clear e9
   go_enter Tryz.func130,Tryz.ntmps130
   go_upto_region 1 with fail
   rw [HW1.out,HB1.out]
   go_upto_region 2 with fail
   rw [HW2.out,HB2.out]
   go_wp2_with fail
   go_loopw [0,10,31] (fun s0 _ ii wr => ∃ (k:Nat) (v':Value),v'=s0/\ii=.int .i64 k/\k<=l.length/\wr.ownsRow base 43 9 v' (G1 ++ usedL F (l.take k)).length (feC ((G1 ++ usedL F (l.take k)).map toE))/\Below base w wr) (fun _ _ ii _ => l.length - (intOf ii).toNat)
   case atStart => exact ⟨0,_,rfl,rfl,Nat.zero_le _,HGo.out.1,HGo.out.2⟩
   case round =>
    obtain ⟨k,v,rfl,rfl,hk,hown,hb⟩:=hrel
    obtain ⟨wa,rfl⟩:∃ V,V=wr:=⟨_,rfl⟩
    by_cases hlt:k < l.length
    ·obtain ⟨ad,ed,eB,en,ec,rfl,hat,hi9⟩:=HEl.out wa hb k hlt
     obtain ⟨W9,hW9⟩:∃ V,wa.alloc (.cells #[.int .i64 ed.op,.int .i64 ed.k,.int .i64 ed.n,.string ed.s,.string ed.nm,.slice eB en ec] 41)=V:=⟨_,rfl⟩
     obtain ⟨B9,hB9⟩:∃ B,wa.heap.size=B:=⟨_,rfl⟩
     have hb9:=b_new wa (.cells #[.int .i64 ed.op,.int .i64 ed.k,.int .i64 ed.n,.string ed.s,.string ed.nm,.slice eB en ec] 41)
     have hblk9:=World.alloc_heap_new wa (.cells #[.int .i64 ed.op,.int .i64 ed.k,.int .i64 ed.n,.string ed.s,.string ed.nm,.slice eB en ec] 41)
     have hown9:=hown.alloc (.cells #[.int .i64 ed.op,.int .i64 ed.k,.int .i64 ed.n,.string ed.s,.string ed.nm,.slice eB en ec] 41)
     rw [hW9] at hb9 hblk9 hown9
     rw [hB9] at hblk9
     have hbs9:base<=W9.heap.size:=by have:=hb.size; have:=hb9.size; omega
     have hbw9:Below base w W9:=hb.trans (hb9.mono (by have:=hb.size; omega))
     have h1:=refsL_take l k hlt
     have h2:=HFl.out k
     have hcall:=HIh.out l[k] (List.getElem_mem hlt) ed eB en ec W9 v (G1 ++ usedL F (l.take k)) (hi9.below hb9) (HSmV.out W9 hbw9) hmb hbs9 hown9 (by rw [List.length_append]; omega)
     have eN:G1 ++ usedL F (l.take k) ++ usedF F l[k]=G1 ++ usedL F (l.take (k + 1)):=by rw [usedL_succ F l k hlt,List.append_assoc]
     rw [eN] at hcall
     have hc9:W9.cell? ⟨B9,0,none⟩=some (.int .i64 ed.op)/\W9.cell? ⟨B9,1,none⟩=some (.int .i64 ed.k)/\W9.cell? ⟨B9,2,none⟩=some (.int .i64 ed.n)/\W9.cell? ⟨B9,3,none⟩=some (.string ed.s)/\W9.cell? ⟨B9,4,none⟩=some (.string ed.nm)/\W9.cell? ⟨B9,5,none⟩=some (.slice eB en ec) :=
      ⟨by simp [World.cell?,hblk9],by simp [World.cell?,hblk9],by simp [World.cell?,hblk9],by simp [World.cell?,hblk9],by simp [World.cell?,hblk9],by simp [World.cell?,hblk9]⟩
     obtain ⟨y0,y1,y2,y3,y4,y5⟩:=hc9
     obtain ⟨q0,q1,q2,q3,q4,q5⟩:=hat
     have HCall:=Lib.hid hcall
     have HBw9:=Lib.hid hbw9
     have HW9:=Lib.hid hW9
     have HB9:=Lib.hid hB9
     clear hcall hbw9 hW9 hB9 hb9 hblk9 hown9 hown hb hi9 eN h1 h2
     go_upto_region 7 with fail
     rw [HW9.out,HB9.out]
     go_wp2_with fail
     refine HCall.out.mono ?_; rintro e w1 ⟨v2,rfl,ho2,hb2⟩
     have HN:=Lib.hid (And.intro ho2 (HBw9.out.trans hb2))
     clear ho2 hb2
     go_wp2_with fail
     go_roundw
     case rel => exact ⟨k + 1,v2,rfl,by go_num,by omega,HN.out.1,HN.out.2⟩
     case measure => simp [intOf]; omega
    ·have ek:k=l.length:=by omega
     subst ek
     rw [HU.out] at hown
     have HN:=Lib.hid (show UsedOut F base (G1 ++ usedF F (.mk d' l)) w (.returned v) wa from ⟨v,rfl,by rw [HGe.out]; exact hown,hb⟩)
     clear hown hb
     go_wp2_with fail
     go_ret
     exact HN.out
 ·rw [nmd_none hf] at hlk
  have hpk:pickF F d'.nm=[]:=by unfold pickF; rw [dif_neg hf]
  have hlk2:(Instr.lookup 147 (.map (some m)) (.string d'.nm) true).run Tryz.prog W1=.ok (.tuple #[.agg #[.string ⟨#[]⟩,.int .i64 0,.int .i64 0,.int .i64 0,.int .i64 0,.int .i64 0,.string ⟨#[]⟩,.string ⟨#[]⟩,.slice none 0 0],.bool false]) W1:=hlk
  obtain ⟨W2,hW2⟩:∃ V,W1.alloc (.cells #[.string ⟨#[]⟩,.int .i64 0,.int .i64 0,.int .i64 0,.int .i64 0,.int .i64 0,.string ⟨#[]⟩,.string ⟨#[]⟩,.slice none 0 0] 43)=V:=⟨_,rfl⟩
  obtain ⟨B2,hB2⟩:∃ B,W1.heap.size=B:=⟨_,rfl⟩
  have hb2:=b_new W1 (.cells #[.string ⟨#[]⟩,.int .i64 0,.int .i64 0,.int .i64 0,.int .i64 0,.int .i64 0,.string ⟨#[]⟩,.string ⟨#[]⟩,.slice none 0 0] 43)
  have hown2:=HOwn1.out.alloc (.cells #[.string ⟨#[]⟩,.int .i64 0,.int .i64 0,.int .i64 0,.int .i64 0,.int .i64 0,.string ⟨#[]⟩,.string ⟨#[]⟩,.slice none 0 0] 43)
  rw [hW2] at hb2 hown2
  have hB12:B1 < W1.heap.size:=by rw [← HW1.out,World.size_alloc,HB1.out]; omega
  obtain ⟨x0b,x4b,x5b⟩:=HCell.out W2 (hb2.block B1 hB12)
  have hbw2:Below base w W2:=Hb1.out.trans (hb2.mono (Nat.le_trans hbs Hb1.out.size))
  have hge:G ++ usedF F (.mk d' l)=G ++ usedL F l:=by
   rw [usedF_mk,hpk]
   split <;> rfl
  have HGe:=Lib.hid hge
  have hlen2:G.length + (refsL l).length<=1000000000:=by omega
  obtain ⟨G1,rfl⟩:∃ L,L=G:=⟨_,rfl⟩
  have e9:G1 ++ usedL F (l.take 0)=G1:=by rw [HU0.out,List.append_nil]
  have HGo:=Lib.hid (show W2.ownsRow base 43 9 v0 (G1 ++ usedL F (l.take 0)).length (feC ((G1 ++ usedL F (l.take 0)).map toE))/\Below base w W2 from ⟨by rw [e9]; exact hown2,hbw2⟩)
  have HW2:=Lib.hid hW2
  have HB2:=Lib.hid hB2
  clear e9 hlk hf hpk hW2 hB2 hb2 hown2 hB12 hbw2 hge hlen
  go_enter Tryz.func130,Tryz.ntmps130
  go_upto_region 1 with fail
  rw [HW1.out,HB1.out]
  go_upto_region 2 with fail
  rw [HW2.out,HB2.out]
  go_wp2_with fail
  go_loopw [0,10,31] (fun s0 _ ii wr => ∃ (k:Nat) (v':Value),v'=s0/\ii=.int .i64 k/\k<=l.length/\wr.ownsRow base 43 9 v' (G1 ++ usedL F (l.take k)).length (feC ((G1 ++ usedL F (l.take k)).map toE))/\Below base w wr) (fun _ _ ii _ => l.length - (intOf ii).toNat)
  case atStart => exact ⟨0,_,rfl,rfl,Nat.zero_le _,HGo.out.1,HGo.out.2⟩
  case round =>
   obtain ⟨k,v,rfl,rfl,hk,hown,hb⟩:=hrel
   obtain ⟨wa,rfl⟩:∃ V,V=wr:=⟨_,rfl⟩
   by_cases hlt:k < l.length
   ·obtain ⟨ad,ed,eB,en,ec,rfl,hat,hi9⟩:=HEl.out wa hb k hlt
    obtain ⟨W9,hW9⟩:∃ V,wa.alloc (.cells #[.int .i64 ed.op,.int .i64 ed.k,.int .i64 ed.n,.string ed.s,.string ed.nm,.slice eB en ec] 41)=V:=⟨_,rfl⟩
    obtain ⟨B9,hB9⟩:∃ B,wa.heap.size=B:=⟨_,rfl⟩
    have hb9:=b_new wa (.cells #[.int .i64 ed.op,.int .i64 ed.k,.int .i64 ed.n,.string ed.s,.string ed.nm,.slice eB en ec] 41)
    have hblk9:=World.alloc_heap_new wa (.cells #[.int .i64 ed.op,.int .i64 ed.k,.int .i64 ed.n,.string ed.s,.string ed.nm,.slice eB en ec] 41)
    have hown9:=hown.alloc (.cells #[.int .i64 ed.op,.int .i64 ed.k,.int .i64 ed.n,.string ed.s,.string ed.nm,.slice eB en ec] 41)
    rw [hW9] at hb9 hblk9 hown9
    rw [hB9] at hblk9
    have hbs9:base<=W9.heap.size:=by have:=hb.size; have:=hb9.size; omega
    have hbw9:Below base w W9:=hb.trans (hb9.mono (by have:=hb.size; omega))
    have h1:=refsL_take l k hlt
    have h2:=HFl.out k
    have hcall:=HIh.out l[k] (List.getElem_mem hlt) ed eB en ec W9 v (G1 ++ usedL F (l.take k)) (hi9.below hb9) (HSmV.out W9 hbw9) hmb hbs9 hown9 (by rw [List.length_append]; omega)
    have eN:G1 ++ usedL F (l.take k) ++ usedF F l[k]=G1 ++ usedL F (l.take (k + 1)):=by rw [usedL_succ F l k hlt,List.append_assoc]
    rw [eN] at hcall
    have hc9:W9.cell? ⟨B9,0,none⟩=some (.int .i64 ed.op)/\W9.cell? ⟨B9,1,none⟩=some (.int .i64 ed.k)/\W9.cell? ⟨B9,2,none⟩=some (.int .i64 ed.n)/\W9.cell? ⟨B9,3,none⟩=some (.string ed.s)/\W9.cell? ⟨B9,4,none⟩=some (.string ed.nm)/\W9.cell? ⟨B9,5,none⟩=some (.slice eB en ec) :=
     ⟨by simp [World.cell?,hblk9],by simp [World.cell?,hblk9],by simp [World.cell?,hblk9],by simp [World.cell?,hblk9],by simp [World.cell?,hblk9],by simp [World.cell?,hblk9]⟩
    obtain ⟨y0,y1,y2,y3,y4,y5⟩:=hc9
    obtain ⟨q0,q1,q2,q3,q4,q5⟩:=hat
    have HCall:=Lib.hid hcall
    have HBw9:=Lib.hid hbw9
    have HW9:=Lib.hid hW9
    have HB9:=Lib.hid hB9
    clear hcall hbw9 hW9 hB9 hb9 hblk9 hown9 hown hb hi9 eN h1 h2
    go_upto_region 7 with fail
    rw [HW9.out,HB9.out]
    go_wp2_with fail
    refine HCall.out.mono ?_; rintro e w1 ⟨v2,rfl,ho2,hb2⟩
    have HN:=Lib.hid (And.intro ho2 (HBw9.out.trans hb2))
    clear ho2 hb2
    go_wp2_with fail
    go_roundw
    case rel => exact ⟨k + 1,v2,rfl,by go_num,by omega,HN.out.1,HN.out.2⟩
    case measure => simp [intOf]; omega
   ·have ek:k=l.length:=by omega
    subst ek
    rw [HU.out] at hown
    have HN:=Lib.hid (show UsedOut F base (G1 ++ usedF F (.mk d' l)) w (.returned v) wa from ⟨v,rfl,by rw [HGe.out]; exact hown,hb⟩)
    clear hown hb
    go_wp2_with fail
    go_ret
    exact HN.out
set_option maxRecDepth 100000 in
set_option maxHeartbeats 4000000 in
theorem keyType_any (F:List GenL.Fd) (N m:Nat) (f:GenL.Fd) (x:Ex) (w:World) (his:Is w x f.d f.A f.n) (hsm:SM w m N (nmdM F F.length)) (hlen:(Ex.refs x).length<=1000000000) (hT:Tab w) :
  Calls Tryz.prog 101 #[fdA f,.map (some m)] w fun e w' => e=.returned (.int .i64 (ofT (fts F) x).1)/\Below w.heap.size w w':=by
 obtain ⟨WA,hWA⟩:∃ V,w.alloc (ShF.fdBox f)=V:=⟨_,rfl⟩
 obtain ⟨B,hB⟩:∃ B,w.heap.size=B:=⟨_,rfl⟩
 have hbA:Below w.heap.size w WA:=by rw [← hWA]; exact b_new w _
 have hcell:∀ V,Below WA.heap.size WA V->_:=fun V hV => fd_cells9 w f V (by rw [← hWA] at hV; exact hV)
 rw [hB] at hcell
 have hmA:m < WA.heap.size:=Nat.lt_of_lt_of_le hsm.lt hbA.size
 have hus:∀ V,Below WA.heap.size WA V->Calls Tryz.prog 130 #[.slice none 0 0,.agg #[.int .i64 f.d.op,.int .i64 f.d.k,.int .i64 f.d.n,.string f.d.s,.string f.d.nm,.slice f.A f.n f.c],.map (some m)] V fun e w' => ∃ (UA:Option Addr) (uc:Nat),e=.returned (.slice UA (usedF F x).length uc)/\Flds w' UA (usedF F x)/\Below WA.heap.size V w':=fun V hV => by
  have hp:IsP (fun b => b < WA.heap.size) V x f.d f.A f.n:=IsP.keep (fun b hb _ => hV.block b hb) (fun _ h _ => h) _ _ _ _ (is_old x f.d f.A f.n (his.below hbA))
  refine (used_any F N m WA.heap.size x f.d f.A f.n f.c V (.slice none 0 0) [] hp (hsm.below (b_trans hbA hV)) hmA hV.size (World.ownsRow_nil _ _ _ _) (by simpa using hlen)).mono fun e w' h => ?_
  obtain ⟨v',rfl,ho,hb⟩:=h
  rw [List.nil_append] at ho
  obtain ⟨UA,uc,rfl,hfl⟩:=own_flds ho (by rw [List.length_map])
  rw [toE_map] at hfl ⊢
  exact ⟨UA,uc,rfl,hfl,hb⟩
 have hul:(usedF F x).length<=1000000000000:=by
  have:=flat_len F (Ex.refs x)
  unfold usedF; omega
 have hof:∀ (V:World) (UA:Option Addr) (uc:Nat),Below WA.heap.size WA V->Flds V UA (usedF F x)->Calls Tryz.prog 129 #[.agg #[.int .i64 f.d.op,.int .i64 f.d.k,.int .i64 f.d.n,.string f.d.s,.string f.d.nm,.slice f.A f.n f.c],.slice UA (usedF F x).length uc] V fun e w' => e=.returned (.tuple #[.int .i64 (ofT (fts F) x).1,.int .i64 (ofT (fts F) x).2])/\Below V.heap.size V w':=fun V UA uc hV hf => by
  have:=TyO.of_any x (usedF F x) UA uc f.d f.A f.n f.c V hul (his.below (b_trans hbA hV)) hf (hT.below (b_trans hbA hV))
  rw [used_ty] at this
  exact this
 obtain ⟨R,hR⟩:∃ R,ofT (fts F) x=R:=⟨_,rfl⟩
 obtain ⟨U,hU⟩:∃ U,usedF F x=U:=⟨_,rfl⟩
 rw [hR] at hof ⊢
 rw [hU] at hof hus
 obtain ⟨r1,r2⟩:=R
 obtain ⟨x0,x1,x2,x3,x4,x5,x6,x7,x8⟩:=hcell WA (Below.refl _ _)
 have hbl:Below WA.heap.size WA WA:=Below.refl _ _
 have HUs:=Lib.hid hus
 have HOf:=Lib.hid hof
 have HCell:=Lib.hid hcell
 have HWA:=Lib.hid hWA
 have HB:=Lib.hid hB
 have HbA:=Lib.hid hbA
 clear hus hof hcell hWA hB hbA his hsm hR hU hul hT hmA hlen
 unfold ShF.fdBox at HWA
 go_enter Tryz.func101,Tryz.ntmps101
 go_upto_region 1 with fail
 rw [HWA.out,HB.out]
 go_region_held3 (fun V => V.cell? ⟨B,0,none⟩=some (.string f.nm)/\V.cell? ⟨B,1,none⟩=some (.int .i64 f.kind)/\V.cell? ⟨B,2,none⟩=some (.int .i64 f.ty)/\V.cell? ⟨B,3,none⟩=some (.int .i64 f.d.op)/\V.cell? ⟨B,4,none⟩=some (.int .i64 f.d.k)/\V.cell? ⟨B,5,none⟩=some (.int .i64 f.d.n)/\V.cell? ⟨B,6,none⟩=some (.string f.d.s)/\V.cell? ⟨B,7,none⟩=some (.string f.d.nm)/\V.cell? ⟨B,8,none⟩=some (.slice f.A f.n f.c)) (first | (with_reducible exact HCell.out _ hbl) | (with_reducible exact HCell.out _ (b_drew hbl)))
  (first | (go_at_call 130; (with_reducible refine (HUs.out _ ?_).mono ?_); (first | exact hbl | exact b_drew hbl); rintro e wn ⟨UA,uc,rfl,hfl,hbn⟩; have hbl:Below WA.heap.size WA wn:=(by (first | (exact hbl.trans hbn) | (exact (b_drew hbl).trans hbn)))) | (go_at_call 129; (with_reducible refine (HOf.out _ _ _ ?_ ?_).mono ?_); (first | exact hbl | exact b_drew hbl); (first | exact hfl | exact hfl.below (b_drew (Below.refl _ _))); rintro e wk ⟨rfl,hbk⟩; have hbl:Below WA.heap.size WA wk:=(by (first | (exact TyO.b_step hbl hbk) | (exact TyO.b_step (b_drew hbl) hbk)))))
 all_goals
  have HBE:=Lib.hid (b_trans HbA.out hbl)
  clear hbl
  go_wp2_with fail
  go_ret
  exact ⟨rfl,HBE.out⟩
end Wh3
namespace FldR
open Go.RowKit
open ValM LexM NumM ExM Kit ExL ExN ExC RawV Within RawL GenL FldP
set_option linter.unusedVariables false
def bareB (d:Nd) (n:Nat):Bool:=decide (d.op=0) && decide (d.k=0) && decide (d.n=0) && decide (d.s=⟨#[]⟩) && decide (d.nm=⟨#[]⟩) && decide (n=0)
def rightE (f:GenL.Fd) (x:Ex):Int :=
 if LexB.nameE f.nm.data.toList ≠ 0 then LexB.nameE f.nm.data.toList
 else if isT f.kind=true/\isT f.ty=true then (if f.kind=1 then (if bareB f.d f.n=true then 0 else 3) else x.checkE)
 else 2
theorem isT_iff {k:Int}:isT k=true ↔ 1<=k/\k<=3:=by unfold isT; simp; omega
theorem empty_t {s:ByteArray} (h:s=⟨#[]⟩):s.toList.isEmpty=true:=by rw [h,ByteArray.toList_eq]; rfl
theorem empty_n {s:ByteArray} (h:s ≠ ⟨#[]⟩):s.toList.isEmpty=false:=by
 cases hs:s.toList with
 | nil =>
  exfalso
  apply h
  rw [ByteArray.toList_eq] at hs
  exact ByteArray.ext (Array.ext' hs)
 | cons a l => rfl
set_option maxHeartbeats 1000000 in
theorem isKind_any (k:Int) (w:World):Calls Tryz.prog 161 #[.int .i64 k] w fun e w' => e=.returned (.bool (isT k))/\w=w':=by
 by_cases h1:k=1
 ·subst h1
  go_enter Tryz.func161,Tryz.ntmps161
  go_wp2
  go_ret
  exact ⟨rfl,rfl⟩
 ·by_cases h2:k=2
  ·subst h2
   go_enter Tryz.func161,Tryz.ntmps161
   go_wp2
   go_ret
   exact ⟨rfl,rfl⟩
  ·by_cases h3:k=3
   ·subst h3
    go_enter Tryz.func161,Tryz.ntmps161
    go_wp2
    go_ret
    exact ⟨rfl,rfl⟩
   ·have e:isT k=false:=by unfold isT; simp [h1,h2,h3]
    rw [e]
    have t1:(k == 1)=false:=beq_eq_false_iff_ne.2 h1
    have t2:(k == 2)=false:=beq_eq_false_iff_ne.2 h2
    have t3:(k == 3)=false:=beq_eq_false_iff_ne.2 h3
    clear e h1 h2 h3
    go_enter Tryz.func161,Tryz.ntmps161
    go_wp2
    go_ret
    exact ⟨rfl,rfl⟩
set_option maxHeartbeats 2000000 in
theorem isAbsent_any (d:Nd) (A:Option Addr) (n c:Nat) (w:World):Calls Tryz.prog 162 #[.agg #[.int .i64 d.op,.int .i64 d.k,.int .i64 d.n,.string d.s,.string d.nm,.slice A n c]] w fun e w' => e=.returned (.bool (bareB d n))/\Below w.heap.size w w':=by
 obtain ⟨b,hb⟩:∃ b,bareB d n=b:=⟨_,rfl⟩
 rw [hb]
 unfold bareB at hb
 by_cases h1:d.op=0
 ·have t1:(d.op == 0)=true:=beq_iff_eq.2 h1
  rw [decide_eq_true h1,Bool.true_and] at hb
  clear h1
  by_cases h2:d.k=0/\d.n=0/\d.s=⟨#[]⟩
  ·obtain ⟨h2,h3,h4⟩:=h2
   have t2:(d.k == 0)=true:=beq_iff_eq.2 h2
   have t3:(d.n == 0)=true:=beq_iff_eq.2 h3
   have t4:=empty_t h4
   rw [decide_eq_true h2,decide_eq_true h3,decide_eq_true h4,Bool.true_and,Bool.true_and,Bool.true_and] at hb
   clear h2 h3 h4
   by_cases h5:d.nm=⟨#[]⟩
   ·have t5:=empty_t h5
    rw [decide_eq_true h5,Bool.true_and] at hb
    clear h5
    have t6:((n:Int) == 0)=b:=by
     rw [← hb]
     by_cases h6:n=0
     ·subst h6; rfl
     ·rw [decide_eq_false h6]; exact beq_eq_false_iff_ne.2 (by omega)
    clear hb
    cases b
    all_goals
     go_enter Tryz.func162,Tryz.ntmps162
     go_wp2
     go_ret
     exact ⟨rfl,b_new _ _⟩
   ·have t5:=empty_n h5
    rw [decide_eq_false h5,Bool.false_and] at hb
    subst hb
    clear h5
    go_enter Tryz.func162,Tryz.ntmps162
    go_wp2
    go_ret
    exact ⟨rfl,b_new _ _⟩
  ·have e:b=false:=by
    rw [← hb]
    cases e1:decide (d.k=0) <;> cases e2:decide (d.n=0) <;> cases e3:decide (d.s=⟨#[]⟩) <;> simp_all
   subst e
   clear hb
   by_cases g2:d.k=0
   ·have t2:(d.k == 0)=true:=beq_iff_eq.2 g2
    by_cases g3:d.n=0
    ·have t3:(d.n == 0)=true:=beq_iff_eq.2 g3
     have t4:=empty_n fun g4 => h2 ⟨g2,g3,g4⟩
     clear h2 g2 g3
     go_enter Tryz.func162,Tryz.ntmps162
     go_wp2
     go_ret
     exact ⟨rfl,b_new _ _⟩
    ·have t3:(d.n == 0)=false:=beq_eq_false_iff_ne.2 g3
     clear h2 g2 g3
     go_enter Tryz.func162,Tryz.ntmps162
     go_wp2
     go_ret
     exact ⟨rfl,b_new _ _⟩
   ·have t2:(d.k == 0)=false:=beq_eq_false_iff_ne.2 g2
    clear h2 g2
    go_enter Tryz.func162,Tryz.ntmps162
    go_wp2
    go_ret
    exact ⟨rfl,b_new _ _⟩
 ·have t1:(d.op == 0)=false:=beq_eq_false_iff_ne.2 h1
  rw [decide_eq_false h1] at hb
  simp only [Bool.false_and] at hb
  subst hb
  clear h1
  go_enter Tryz.func162,Tryz.ntmps162
  go_wp2
  go_ret
  exact ⟨rfl,b_new _ _⟩
def rightHead (w:World) (f:GenL.Fd):World:=w.alloc (.cells #[.string f.nm,.int .i64 f.kind,.int .i64 f.ty,.int .i64 f.d.op,.int .i64 f.d.k,.int .i64 f.d.n,.string f.d.s,.string f.d.nm,.slice f.A f.n f.c] 43)
theorem head_cells (w:World) (f:GenL.Fd) (V:World) (hV:Below (rightHead w f).heap.size (rightHead w f) V):V.cell? ⟨w.heap.size,0,none⟩=some (.string f.nm)/\V.cell? ⟨w.heap.size,1,none⟩=some (.int .i64 f.kind)/\V.cell? ⟨w.heap.size,2,none⟩=some (.int .i64 f.ty)/\V.cell? ⟨w.heap.size,3,none⟩=some (.int .i64 f.d.op)/\V.cell? ⟨w.heap.size,4,none⟩=some (.int .i64 f.d.k)/\V.cell? ⟨w.heap.size,5,none⟩=some (.int .i64 f.d.n)/\V.cell? ⟨w.heap.size,6,none⟩=some (.string f.d.s)/\V.cell? ⟨w.heap.size,7,none⟩=some (.string f.d.nm)/\V.cell? ⟨w.heap.size,8,none⟩=some (.slice f.A f.n f.c):=by
 have e1:V.heap[w.heap.size]?=_:=(hV.block _ (by show _ < (w.alloc _).heap.size; simp)).trans (World.alloc_heap_new w (.cells #[.string f.nm,.int .i64 f.kind,.int .i64 f.ty,.int .i64 f.d.op,.int .i64 f.d.k,.int .i64 f.d.n,.string f.d.s,.string f.d.nm,.slice f.A f.n f.c] 43))
 exact ⟨by simp [World.cell?,e1],by simp [World.cell?,e1],by simp [World.cell?,e1],by simp [World.cell?,e1],by simp [World.cell?,e1],by simp [World.cell?,e1],by simp [World.cell?,e1],by simp [World.cell?,e1],by simp [World.cell?,e1]⟩
set_option maxHeartbeats 4000000 in
theorem right_any (f:GenL.Fd) (x:Ex) (w:World) (hs:f.nm.size<=maxLen) (his:Is w x f.d f.A f.n) (hT:Tab w) :
  Calls Tryz.prog 131 #[.agg #[.string f.nm,.int .i64 f.kind,.int .i64 f.ty,.int .i64 f.d.op,.int .i64 f.d.k,.int .i64 f.d.n,.string f.d.s,.string f.d.nm,.slice f.A f.n f.c]] w fun e w' => e=.returned (.int .i64 (rightE f x))/\Below w.heap.size w w':=by
 obtain ⟨R,hR⟩:∃ R,rightE f x=R:=⟨_,rfl⟩
 rw [hR]
 obtain ⟨W,hW⟩:∃ W,w.alloc (.cells #[.string f.nm,.int .i64 f.kind,.int .i64 f.ty,.int .i64 f.d.op,.int .i64 f.d.k,.int .i64 f.d.n,.string f.d.s,.string f.d.nm,.slice f.A f.n f.c] 43)=W:=⟨_,rfl⟩
 have hb0:=b_new w (.cells #[.string f.nm,.int .i64 f.kind,.int .i64 f.ty,.int .i64 f.d.op,.int .i64 f.d.k,.int .i64 f.d.n,.string f.d.s,.string f.d.nm,.slice f.A f.n f.c] 43)
 have hcell:=head_cells w f
 unfold rightHead at hcell
 rw [hW] at hb0 hcell
 have hnm:=fun V => LexB.name_any f.nm V hs
 have hck:∀ V:World,Below W.heap.size W V->Calls Tryz.prog 71 #[.agg #[.int .i64 f.d.op,.int .i64 f.d.k,.int .i64 f.d.n,.string f.d.s,.string f.d.nm,.slice f.A f.n f.c]] V fun e w' => e=.returned (.int .i64 x.checkE)/\Below V.heap.size V w':=fun V hV =>
  check_any x f.d f.A f.n f.c V (his.below (b_trans hb0 hV)) (hT.below (b_trans hb0 hV))
 have hki:=fun V => isKind_any f.kind V
 have hab:=fun V => isAbsent_any f.d f.A f.n f.c V
 unfold rightE at hR
 generalize LexB.nameE f.nm.data.toList=ne at hnm hR
 have HB0:=Lib.hid hb0
 have HCell:=Lib.hid hcell
 have HNm:=Lib.hid hnm
 have HCk:=Lib.hid hck
 have HKi:=Lib.hid hki
 have HAb:=Lib.hid hab
 have HW:=Lib.hid hW
 obtain ⟨q0,q1,q2,q3,q4,q5,q6,q7,q8⟩:=hcell W (Below.refl _ _)
 clear hb0 hcell hnm hck hki hab hW his hT
 by_cases h1:ne=0
 ·subst h1
  rw [if_neg (by simp)] at hR
  cases hk:isT f.kind with
  | false =>
   rw [hk,if_neg (by simp)] at hR
   subst hR
   rw [hk] at HKi
   clear hk
   go_enter Tryz.func131,Tryz.ntmps131
   go_wp2_with fail
   rw [HW.out]
   refine (HNm.out _).mono ?_; rintro e w1 ⟨rfl,rfl⟩
   go_wp2_with fail
   refine (HKi.out _).mono ?_; rintro e w1 ⟨rfl,rfl⟩
   go_wp2_with fail
   go_ret
   exact ⟨rfl,HB0.out⟩
  | true =>
   rw [hk] at hR HKi
   clear hk
   cases hy:isT f.ty with
   | false =>
    rw [hy,if_neg (by simp)] at hR
    subst hR
    have hz:=fun V => Val.zero_out f.ty V hy
    have HZ:=Lib.hid hz
    clear hz hy
    go_enter Tryz.func131,Tryz.ntmps131
    go_wp2_with fail
    rw [HW.out]
    refine (HNm.out _).mono ?_; rintro e w1 ⟨rfl,rfl⟩
    go_wp2_with fail
    refine (HKi.out _).mono ?_; rintro e w1 ⟨rfl,rfl⟩
    go_wp2_with fail
    refine (HZ.out _).mono ?_; rintro e w2 ⟨rfl,hb2⟩
    obtain ⟨cA,cB⟩:=bcell hb2
    have HB2:=Lib.hid hb2
    clear hb2
    go_wp2_with fail
    go_ret
    exact ⟨rfl,b_more (b_trans HB0.out HB2.out) _⟩
   | true =>
    rw [hy,if_pos ⟨rfl,rfl⟩] at hR
    have hz:=fun V => Val.zero_in f.ty V hy
    have HZ:=Lib.hid hz
    clear hz hy
    by_cases h3:f.kind=1
    ·rw [if_pos h3] at hR
     have t3:(f.kind != 1)=false:=by rw [h3]; rfl
     clear h3
     obtain ⟨b,hb⟩:∃ b,bareB f.d f.n=b:=⟨_,rfl⟩
     rw [hb] at hR HAb
     clear hb
     go_enter Tryz.func131,Tryz.ntmps131
     go_wp2_with fail
     rw [HW.out]
     refine (HNm.out _).mono ?_; rintro e w1 ⟨rfl,rfl⟩
     go_wp2_with fail
     refine (HKi.out _).mono ?_; rintro e w1 ⟨rfl,rfl⟩
     go_wp2_with fail
     refine (HZ.out _).mono ?_; rintro e w2 ⟨rfl,hb2⟩
     obtain ⟨W2,hW2⟩:∃ V,w2.alloc (.cells #[.int .i64 f.ty,.int .i64 0,.string ⟨#[]⟩] 38)=V:=⟨_,rfl⟩
     have hb3:=b_more hb2 (.cells #[.int .i64 f.ty,.int .i64 0,.string ⟨#[]⟩] 38)
     rw [hW2] at hb3
     obtain ⟨k0,k1,k2,k3,k4,k5,k6,k7,k8⟩:=HCell.out W2 hb3
     have HB3:=Lib.hid hb3
     have HW2:=Lib.hid hW2
     clear hb2 hb3 hW2
     go_upto_region 7 with fail
     rw [HW2.out]
     go_wp2_with fail
     refine (HAb.out _).mono ?_; rintro e w4 ⟨rfl,hb4⟩
     have HB4:=Lib.hid (b_trans HB0.out (b_trans HB3.out hb4))
     clear hb4
     cases b
     all_goals
      simp at hR
      subst hR
      go_wp2_with fail
      go_ret
      exact ⟨rfl,HB4.out⟩
    ·rw [if_neg h3] at hR
     subst hR
     have t3:(f.kind != 1)=true:=by simpa using h3
     clear h3
     go_enter Tryz.func131,Tryz.ntmps131
     go_wp2_with fail
     rw [HW.out]
     refine (HNm.out _).mono ?_; rintro e w1 ⟨rfl,rfl⟩
     go_wp2_with fail
     refine (HKi.out _).mono ?_; rintro e w1 ⟨rfl,rfl⟩
     go_wp2_with fail
     refine (HZ.out _).mono ?_; rintro e w2 ⟨rfl,hb2⟩
     obtain ⟨W2,hW2⟩:∃ V,w2.alloc (.cells #[.int .i64 f.ty,.int .i64 0,.string ⟨#[]⟩] 38)=V:=⟨_,rfl⟩
     have hb3:=b_more hb2 (.cells #[.int .i64 f.ty,.int .i64 0,.string ⟨#[]⟩] 38)
     rw [hW2] at hb3
     obtain ⟨k0,k1,k2,k3,k4,k5,k6,k7,k8⟩:=HCell.out W2 hb3
     have HB3:=Lib.hid hb3
     have HW2:=Lib.hid hW2
     clear hb2 hb3 hW2
     go_upto_region 7 with fail
     rw [HW2.out]
     go_wp2_with fail
     refine (HCk.out _ HB3.out).mono ?_; rintro e w4 ⟨rfl,hb4⟩
     have HB4:=Lib.hid (b_trans HB0.out (b_trans HB3.out hb4))
     clear hb4
     go_wp2_with fail
     go_ret
     exact ⟨rfl,HB4.out⟩
 ·rw [if_pos h1] at hR
  subst hR
  have t1:(ne != 0)=true:=by simpa using h1
  clear h1
  go_enter Tryz.func131,Tryz.ntmps131
  go_wp2_with fail
  rw [HW.out]
  refine (HNm.out _).mono ?_; rintro e w1 ⟨rfl,rfl⟩
  go_wp2_with fail
  go_ret
  exact ⟨rfl,HB0.out⟩
end FldR
namespace FldC
open Go.RowKit
open ValM LexM NumM ExM Kit ExL ExN ExC RawV Within RawL GenL FldP FldR TyM Ty TyO
set_option linter.unusedVariables false
def scan (P:Nat->Int):Nat->Int
 | 0 => 0
 | n + 1 => if scan P n=0 then P n else scan P n
theorem scan_zero {P:Nat->Int}:∀ (n:Nat),(∀ j,j < n->P j=0)->scan P n=0
 | 0,_ => rfl
 | n + 1,h => by
  unfold scan
  rw [if_pos (scan_zero n fun j hj => h j (by omega))]
  exact h n (by omega)
theorem scan_stop {P:Nat->Int}:∀ (n k:Nat),k < n->(∀ j,j < k->P j=0)->P k ≠ 0->scan P n=P k
 | n + 1,k,hk,h,h0 => by
  unfold scan
  by_cases e:k=n
  ·subst e
   rw [if_pos (scan_zero k h)]
  ·have:=scan_stop n k (by omega) h h0
   rw [this,if_neg h0]
def ownE (fs:List GenL.Fd) (X:Nat->Ex) (k:Nat):Int :=
 if h:k < fs.length then (if rightE fs[k] (X k)=0 then (if atF fs fs[k].nm < k then 6 else 0) else rightE fs[k] (X k)) else 0
def srcE (fs:List GenL.Fd) (f:GenL.Fd) (x:Ex):Int:=if f.kind=2 then fitsT (fts fs) x f.ty else if f.kind=3 then (ofT (fts fs) x).2 else 0
def typE (fs:List GenL.Fd) (X:Nat->Ex) (k:Nat):Int:=if h:k < fs.length then srcE fs fs[k] (X k) else 0
def checkF (fs:List GenL.Fd) (X:Nat->Ex):Int :=
 if 14 < fs.length then 1 else if scan (ownE fs X) fs.length=0 then scan (typE fs X) fs.length else scan (ownE fs X) fs.length
def Forms (w:World) (fs:List GenL.Fd) (X:Nat->Ex):Prop:=∀ (k:Nat) (h:k < fs.length),fs[k].nm.size<=maxLen/\Is w (X k) fs[k].d fs[k].A fs[k].n
theorem Forms.below {w w':World} {fs:List GenL.Fd} {X:Nat->Ex} (h:Forms w fs X) (hb:Below w.heap.size w w'):Forms w' fs X:=fun k hk => ⟨(h k hk).1,(h k hk).2.below hb⟩
set_option maxHeartbeats 4000000 in
theorem checkType_any (f:GenL.Fd) (x:Ex) (fs:List GenL.Fd) (FA:Option Addr) (fc:Nat) (w:World) (hm:fs.length<=1000000000000) (his:Is w x f.d f.A f.n) (hf:Flds w FA fs) (hT:Tab w) :
  Calls Tryz.prog 132 #[.agg #[.string f.nm,.int .i64 f.kind,.int .i64 f.ty,.int .i64 f.d.op,.int .i64 f.d.k,.int .i64 f.d.n,.string f.d.s,.string f.d.nm,.slice f.A f.n f.c],.slice FA fs.length fc] w fun e w' => e=.returned (.int .i64 (srcE fs f x))/\Below w.heap.size w w':=by
 obtain ⟨R,hR⟩:∃ R,srcE fs f x=R:=⟨_,rfl⟩
 rw [hR]
 obtain ⟨W,hW⟩:∃ W,w.alloc (.cells #[.string f.nm,.int .i64 f.kind,.int .i64 f.ty,.int .i64 f.d.op,.int .i64 f.d.k,.int .i64 f.d.n,.string f.d.s,.string f.d.nm,.slice f.A f.n f.c] 43)=W:=⟨_,rfl⟩
 have hb0:=b_new w (.cells #[.string f.nm,.int .i64 f.kind,.int .i64 f.ty,.int .i64 f.d.op,.int .i64 f.d.k,.int .i64 f.d.n,.string f.d.s,.string f.d.nm,.slice f.A f.n f.c] 43)
 have hcell:=head_cells w f
 unfold rightHead at hcell
 rw [hW] at hb0 hcell
 have hc1:∀ V:World,Below W.heap.size W V->Calls Tryz.prog 128 #[.agg #[.int .i64 f.d.op,.int .i64 f.d.k,.int .i64 f.d.n,.string f.d.s,.string f.d.nm,.slice f.A f.n f.c],.slice FA fs.length fc,.int .i64 f.ty] V fun e w' => e=.returned (.int .i64 (fitsT (fts fs) x f.ty))/\Below V.heap.size V w':=fun V hV =>
  fits_any x fs FA fc f.ty f.d f.A f.n f.c V hm (his.below (b_trans hb0 hV)) (hf.below (b_trans hb0 hV)) (hT.below (b_trans hb0 hV))
 have hc2:∀ V:World,Below W.heap.size W V->Calls Tryz.prog 129 #[.agg #[.int .i64 f.d.op,.int .i64 f.d.k,.int .i64 f.d.n,.string f.d.s,.string f.d.nm,.slice f.A f.n f.c],.slice FA fs.length fc] V fun e w' => e=.returned (.tuple #[.int .i64 (ofT (fts fs) x).1,.int .i64 (ofT (fts fs) x).2])/\Below V.heap.size V w':=fun V hV =>
  of_any x fs FA fc f.d f.A f.n f.c V hm (his.below (b_trans hb0 hV)) (hf.below (b_trans hb0 hV)) (hT.below (b_trans hb0 hV))
 unfold srcE at hR
 generalize fitsT (fts fs) x f.ty=r1 at hc1 hR
 generalize (ofT (fts fs) x).1=r2 at hc2
 generalize (ofT (fts fs) x).2=r3 at hc2 hR
 have HB0:=Lib.hid hb0
 have HW:=Lib.hid hW
 have H1:=Lib.hid (hc1 W (Below.refl _ _))
 have H2:=Lib.hid (hc2 W (Below.refl _ _))
 obtain ⟨q0,q1,q2,q3,q4,q5,q6,q7,q8⟩:=hcell W (Below.refl _ _)
 clear hb0 hcell hW hc1 hc2 his hf hT
 by_cases h2:f.kind=2
 ·rw [if_pos h2] at hR
  subst hR
  have t2:(f.kind == 2)=true:=beq_iff_eq.2 h2
  clear h2
  go_enter Tryz.func132,Tryz.ntmps132
  go_wp2_with fail
  rw [HW.out]
  go_wp2_with fail
  refine H1.out.mono ?_; rintro e w1 ⟨rfl,hb1⟩
  have HB1:=Lib.hid (b_trans HB0.out hb1)
  clear hb1
  go_wp2_with fail
  go_ret
  exact ⟨rfl,HB1.out⟩
 ·have t2:(f.kind == 2)=false:=beq_eq_false_iff_ne.2 h2
  rw [if_neg h2] at hR
  clear h2
  by_cases h3:f.kind=3
  ·rw [if_pos h3] at hR
   subst hR
   have t3:(f.kind == 3)=true:=beq_iff_eq.2 h3
   clear h3
   go_enter Tryz.func132,Tryz.ntmps132
   go_wp2_with fail
   rw [HW.out]
   go_wp2_with fail
   refine H2.out.mono ?_; rintro e w1 ⟨rfl,hb1⟩
   have HB1:=Lib.hid (b_trans HB0.out hb1)
   clear hb1
   go_wp2_with fail
   go_ret
   exact ⟨rfl,HB1.out⟩
  ·have t3:(f.kind == 3)=false:=beq_eq_false_iff_ne.2 h3
   rw [if_neg h3] at hR
   subst hR
   clear h3
   go_enter Tryz.func132,Tryz.ntmps132
   go_wp2_with fail
   rw [HW.out]
   go_wp2_with fail
   go_ret
   exact ⟨rfl,HB0.out⟩
set_option maxHeartbeats 8000000 in
set_option maxRecDepth 100000 in
theorem check_any (fs:List GenL.Fd) (X:Nat->Ex) (FA:Option Addr) (fc:Nat) (w:World) (hm:fs.length<=1000000000000) (hf:Flds w FA fs) (hX:Forms w fs X) (hT:Tab w) (hcap:fs.length<=fc/\fc<=maxLen) :
  Calls Tryz.prog 104 #[.slice FA fs.length fc] w fun e w' => e=.returned (.int .i64 (checkF fs X))/\Below w.heap.size w w':=by
 obtain ⟨R,hR⟩:∃ R,checkF fs X=R:=⟨_,rfl⟩
 rw [hR]
 unfold checkF at hR
 have HF:=Lib.hid hf
 have HX:=Lib.hid hX
 have HT:=Lib.hid hT
 clear hf hX hT
 by_cases hl:14 < fs.length
 ·rw [if_pos hl] at hR
  subst hR
  have tl:(14:Int) < (fs.length:Int):=by omega
  go_enter Tryz.func104,Tryz.ntmps104
  go_wp2_with fail
  go_ret
  exact ⟨rfl,Below.refl _ _⟩
 ·rw [if_neg hl] at hR
  have tl:¬ (14:Int) < (fs.length:Int):=by omega
  have hown:∀ k,k < fs.length->(∀ j,j < k->ownE fs X j=0)->ownE fs X k ≠ 0->R=ownE fs X k:=fun k hk h h0 => by
   have e:=scan_stop fs.length k hk h h0
   rw [e,if_neg h0] at hR; exact hR.symm
  have htyp:(∀ j,j < fs.length->ownE fs X j=0)->∀ k,k < fs.length->(∀ j,j < k->typE fs X j=0)->typE fs X k ≠ 0->R=typE fs X k:=fun h1 k hk h h0 => by
   rw [scan_zero _ h1,if_pos rfl,scan_stop fs.length k hk h h0] at hR; exact hR.symm
  have hall:(∀ j,j < fs.length->ownE fs X j=0)->(∀ j,j < fs.length->typE fs X j=0)->R=0:=fun h1 h2 => by
   rw [scan_zero _ h1,if_pos rfl,scan_zero _ h2] at hR; exact hR.symm
  have HOwn:=Lib.hid hown
  have HTyp:=Lib.hid htyp
  have HAll:=Lib.hid hall
  clear hown htyp hall hR
  go_enter Tryz.func104,Tryz.ntmps104
  go_wp2_with fail
  go_loopw [3,4,5,6,7,16] (fun _ _ _ _ _ ii wr => ∃ k:Nat,ii=.int .i64 k/\k<=fs.length/\(∀ j,j < k->ownE fs X j=0)/\Below w.heap.size w wr) (fun _ _ _ _ _ ii _ => fs.length - (intOf ii).toNat)
  case atStart => exact ⟨0,rfl,by omega,fun j hj => absurd hj (by omega),Below.refl _ _⟩
  case round =>
   obtain ⟨k,rfl,hk,hz,hb⟩:=hrel
   have HZ:=Lib.hid hz
   by_cases hlt:k < fs.length
   ·obtain ⟨ad,rfl,hat⟩:=HF.out k hlt
    obtain ⟨q0,q1,q2,q3,q4,q5,q6,q7,q8⟩:=hat.of_block (hb.block _ hat.lt)
    obtain ⟨hs,his⟩:=HX.out k hlt
    have hoe:ownE fs X k=(if rightE fs[k] (X k)=0 then (if atF fs fs[k].nm < k then 6 else 0) else rightE fs[k] (X k)):=by unfold ownE; rw [dif_pos hlt]
    have hown:=HOwn.out k hlt hz
    have hnext:ownE fs X k=0->∀ j,j < k + 1->ownE fs X j=0:=fun e j hj => by
     by_cases h:j=k
     ·subst h; exact e
     ·exact hz j (by omega)
    obtain ⟨f,hfk⟩:∃ f,fs[k]=f:=⟨_,rfl⟩
    rw [hfk] at q0 q1 q2 q3 q4 q5 q6 q7 q8 hs his hoe
    obtain ⟨W5,hW5⟩:∃ V,wr.alloc (.cells #[.string f.nm,.int .i64 f.kind,.int .i64 f.ty,.int .i64 f.d.op,.int .i64 f.d.k,.int .i64 f.d.n,.string f.d.s,.string f.d.nm,.slice f.A f.n f.c] 43)=V:=⟨_,rfl⟩
    obtain ⟨B9,hB9⟩:∃ B,wr.heap.size=B:=⟨_,rfl⟩
    have hb5:=b_more hb (.cells #[.string f.nm,.int .i64 f.kind,.int .i64 f.ty,.int .i64 f.d.op,.int .i64 f.d.k,.int .i64 f.d.n,.string f.d.s,.string f.d.nm,.slice f.A f.n f.c] 43)
    have hcell:=head_cells wr f
    unfold rightHead at hcell
    rw [hW5,hB9] at hcell
    rw [hW5] at hb5
    have hri:=right_any f (X k) W5 hs (his.below hb5) (HT.out.below hb5)
    have hat9:=atF_take (fs:=fs) (s:=f.nm) (Nat.le_of_lt hlt)
    have hfi:∀ V:World,Below w.heap.size w V->Calls Tryz.prog 63 #[.slice (some ad) k fc,.string f.nm] V fun e w' => e=.returned (.tuple #[.int .i64 (if atF (fs.take k) f.nm < k then (atF (fs.take k) f.nm:Int) else 0),.int .i64 (if atF fs f.nm < k then 0 else 5)])/\V=w':=fun V hV => by
     have:=find_any f.nm (fs.take k) (some ad) fc V ((FldP.Flds.take HF.out k).below hV) (by rw [List.length_take]; omega)
     have hlk:(fs.take k).length=k:=by rw [List.length_take]; omega
     rw [hlk] at this
     simp only [hat9] at this ⊢
     exact this
    generalize (if atF (fs.take k) f.nm < k then (atF (fs.take k) f.nm:Int) else 0)=zz at hfi
    generalize rightE f (X k)=re at hri hoe
    obtain ⟨dup,hdup⟩:∃ b:Prop,(atF fs f.nm < k)=b:=⟨_,rfl⟩
    have HRi:=Lib.hid hri
    have HFi:=Lib.hid hfi
    have HCell:=Lib.hid hcell
    have HW5:=Lib.hid hW5
    have HB9:=Lib.hid hB9
    have HB5:=Lib.hid hb5
    have HOw:=Lib.hid hown
    have HNx:=Lib.hid hnext
    have HOe:=Lib.hid hoe
    have hk9:k<=14:=by omega
    have hkf:(k:Int)<=(fc:Int):=by omega
    have hk0:(0:Int)<=(k:Int):=by omega
    obtain ⟨k0,k1,k2,k3,k4,k5,k6,k7,k8⟩:=hcell W5 (Below.refl _ _)
    clear hri hfi hcell hW5 hB9 hb5 hown hnext hoe hz hb hat hs his hfk hat9 hdup
    go_wp2_with fail
    rw [HW5.out,HB9.out]
    go_wp2_with fail
    refine HRi.out.mono ?_; rintro e w6 ⟨rfl,hb6⟩
    obtain ⟨k0,k1,k2,k3,k4,k5,k6,k7,k8⟩:=HCell.out w6 hb6
    have HB6:=Lib.hid (b_trans HB5.out hb6)
    clear hb6
    by_cases h0:re=0
    ·subst h0
     have hfi6:∀ m,Calls Tryz.prog 63 #[.slice (some ad) k fc,.string f.nm] (w6.drewN m) fun e w' => e=.returned (.tuple #[.int .i64 zz,.int .i64 (if atF fs f.nm < k then 0 else 5)])/\w6.drewN m=w':=fun m => HFi.out _ (b_drewN HB6.out m)
     by_cases hd:atF fs f.nm < k
     ·have hoe:=HOe.out
      rw [if_pos rfl,if_pos hd] at hoe
      obtain rfl:=(HOw.out (by rw [hoe]; decide)).trans hoe
      simp only [if_pos hd] at hfi6
      have HF6:=Lib.hid hfi6
      clear hfi6 hoe hd
      go_wp2_with fail
      first | (go_quiet ((go_at_call 63; exact (HF6.out _).mono fun _ _ h => ⟨h.1,_,h.2.symm⟩))) | (fail)
      go_wp2_with fail
      go_ret
      exact ⟨rfl,b_drewN HB6.out _⟩
     ·have hoe:=HOe.out
      rw [if_pos rfl,if_neg hd] at hoe
      have hN:=HNx.out hoe
      have HN:=Lib.hid hN
      simp only [if_neg hd] at hfi6
      have HF6:=Lib.hid hfi6
      clear hfi6 hoe hd hN
      go_wp2_with fail
      first | (go_quiet ((go_at_call 63; exact (HF6.out _).mono fun _ _ h => ⟨h.1,_,h.2.symm⟩))) | (fail)
      go_wp2_with fail
      go_roundw
      case rel => exact ⟨k + 1,by go_num,by omega,HN.out,b_drewN HB6.out _⟩
      case measure => simp [intOf]; omega
    ·have hoe:=HOe.out
     rw [if_neg h0] at hoe
     obtain rfl:=(HOw.out (by rw [hoe]; exact h0)).trans hoe
     have t1:(R != 0)=true:=by simpa using h0
     clear hoe h0
     go_wp2_with fail
     go_ret
     exact ⟨rfl,HB6.out⟩
   ·have hz1:∀ j,j < fs.length->ownE fs X j=0:=fun j hj => hz j (by omega)
    have HZ1:=Lib.hid hz1
    obtain ⟨Wp,rfl⟩:∃ V,V=wr:=⟨_,rfl⟩
    have HBp:=Lib.hid hb
    clear hz hz1 hb
    go_wp2_with fail
    go_loopw [9,10,40] (fun _ _ ii wr => ∃ k:Nat,ii=.int .i64 k/\k<=fs.length/\(∀ j,j < k->typE fs X j=0)/\Below w.heap.size w wr) (fun _ _ ii _ => fs.length - (intOf ii).toNat)
    case atStart => exact ⟨0,rfl,by omega,fun j hj => absurd hj (by omega),HBp.out⟩
    case round =>
     obtain ⟨k,rfl,hk,hz,hb⟩:=hrel
     by_cases hlt:k < fs.length
     ·obtain ⟨ad,rfl,hat⟩:=HF.out k hlt
      obtain ⟨q0,q1,q2,q3,q4,q5,q6,q7,q8⟩:=hat.of_block (hb.block _ hat.lt)
      obtain ⟨hs,his⟩:=HX.out k hlt
      have hoe:typE fs X k=srcE fs fs[k] (X k):=by unfold typE; rw [dif_pos hlt]
      have htyp:=HTyp.out HZ1.out k hlt hz
      have hnext:typE fs X k=0->∀ j,j < k + 1->typE fs X j=0:=fun e j hj => by
       by_cases h:j=k
       ·subst h; exact e
       ·exact hz j (by omega)
      obtain ⟨f,hfk⟩:∃ f,fs[k]=f:=⟨_,rfl⟩
      rw [hfk] at q0 q1 q2 q3 q4 q5 q6 q7 q8 hs his hoe
      obtain ⟨W5,hW5⟩:∃ V,wr.alloc (.cells #[.string f.nm,.int .i64 f.kind,.int .i64 f.ty,.int .i64 f.d.op,.int .i64 f.d.k,.int .i64 f.d.n,.string f.d.s,.string f.d.nm,.slice f.A f.n f.c] 43)=V:=⟨_,rfl⟩
      obtain ⟨B9,hB9⟩:∃ B,wr.heap.size=B:=⟨_,rfl⟩
      have hb5:=b_more hb (.cells #[.string f.nm,.int .i64 f.kind,.int .i64 f.ty,.int .i64 f.d.op,.int .i64 f.d.k,.int .i64 f.d.n,.string f.d.s,.string f.d.nm,.slice f.A f.n f.c] 43)
      have hcell:=head_cells wr f
      unfold rightHead at hcell
      rw [hW5,hB9] at hcell
      rw [hW5] at hb5
      have hct:=checkType_any f (X k) fs (some ad) fc W5 hm (his.below hb5) (HF.out.below hb5) (HT.out.below hb5)
      rw [← hoe] at hct
      generalize typE fs X k=te at hct htyp hnext
      have HCt:=Lib.hid hct
      have HW5:=Lib.hid hW5
      have HB9:=Lib.hid hB9
      have HB5:=Lib.hid hb5
      have HTy:=Lib.hid htyp
      have HNx:=Lib.hid hnext
      have hk9:k<=14:=by omega
      obtain ⟨k0,k1,k2,k3,k4,k5,k6,k7,k8⟩:=hcell W5 (Below.refl _ _)
      clear hct hcell hW5 hB9 hb5 htyp hnext hoe hz hb hat hs his hfk
      go_wp2_with fail
      rw [HW5.out,HB9.out]
      go_wp2_with fail
      refine HCt.out.mono ?_; rintro e w6 ⟨rfl,hb6⟩
      have HB6:=Lib.hid (b_trans HB5.out hb6)
      clear hb6
      by_cases h0:te=0
      ·subst h0
       have HN:=Lib.hid (HNx.out rfl)
       go_wp2_with fail
       go_roundw
       case rel => exact ⟨k + 1,by go_num,by omega,HN.out,HB6.out⟩
       case measure => simp [intOf]; omega
      ·obtain rfl:=HTy.out h0
       have t1:(R != 0)=true:=by simpa using h0
       clear h0
       go_wp2_with fail
       go_ret
       exact ⟨rfl,HB6.out⟩
     ·obtain rfl:=HAll.out HZ1.out fun j hj => hz j (by omega)
      have HB6:=Lib.hid hb
      clear hz hb
      go_wp2_with fail
      go_ret
      exact ⟨rfl,HB6.out⟩
end FldC
end Go.Proofs.YtonlkmkfcaadlaaGreatDoor
