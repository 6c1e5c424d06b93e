/- GenV: what these laws name of them. -/
import Derived.Test.YtjhhmdmmllblhaaGreatDoorKt13
namespace Go.Proofs.YtjhhmdmmllblhaaGreatDoor
set_option linter.unusedVariables false
namespace GenV
open Go.RowKit
open ValM LexM NumM ExM Kit ExL ExP RawV Within RawL RawN GenL Gen GenE GenT
set_option linter.unusedVariables false
def nts (F:List GenL.Fd):List (ByteArray × Int):=F.map fun f => (f.nm,f.ty)
theorem nts_len (F:List GenL.Fd):(nts F).length=F.length:=List.length_map ..
def namesOf (fs:List (ByteArray × Int)) (kind:Int):List ByteArray:=(fs.filter fun f => decide (f.2=kind)).map (·.1)
theorem namesOf_yes {F:List GenL.Fd} {kind:Int} {k:Nat} (hk:k < F.length) (h:F[k].ty=kind):namesOf ((nts F).take (k + 1)) kind=namesOf ((nts F).take k) kind ++ [F[k].nm]:=by
 have h1:(nts F).take (k + 1)=(nts F).take k ++ [(F[k].nm,F[k].ty)]:=by
  rw [List.take_add_one,List.getElem?_eq_getElem (by rw [nts_len]; exact hk)]; simp [nts]
 rw [h1]; unfold namesOf; rw [List.filter_append,List.map_append]; simp [h]
theorem namesOf_no {F:List GenL.Fd} {kind:Int} {k:Nat} (hk:k < F.length) (h:F[k].ty ≠ kind):namesOf ((nts F).take (k + 1)) kind=namesOf ((nts F).take k) kind:=by
 have h1:(nts F).take (k + 1)=(nts F).take k ++ [(F[k].nm,F[k].ty)]:=by
  rw [List.take_add_one,List.getElem?_eq_getElem (by rw [nts_len]; exact hk)]; simp [nts]
 rw [h1]; unfold namesOf; rw [List.filter_append,List.map_append]; simp [h]
theorem getD_lt {l:List ByteArray} {j:Nat} (h:j < l.length) (d:ByteArray):l.getD j d=l[j]:=by simp [List.getD,h]
theorem mem_namesOf {F:List GenL.Fd} {kind:Int} {s:ByteArray} (h:s ∈ namesOf (nts F) kind):∃ f ∈ F,f.nm=s/\f.ty=kind:=by
 unfold namesOf nts at h
 obtain ⟨p,hp,rfl⟩:=List.mem_map.1 h
 obtain ⟨h1,h2⟩:=List.mem_filter.1 hp
 obtain ⟨f,hf,rfl⟩:=List.mem_map.1 h1
 exact ⟨f,hf,rfl,by simpa using h2⟩
def constN (kind:Int) (r:Rw):Nd:=⟨1,vK kind,if kind=1 then (if vN kind r.k r.x < -(vN kind r.k r.x) then -(vN kind r.k r.x) else vN kind r.k r.x) else vN kind r.k r.x,vS kind r.t,⟨#[]⟩⟩
def leafV (rs:List Rw) (fs:List (ByteArray × Int)) (kind:Int) (a:Nat):Nd × Nat :=
 (if (namesOf fs kind).length=0 ∨ pick (nextV rs a).k 4=0 then constN kind (nextV rs a) else ⟨2,0,0,⟨#[]⟩,(namesOf fs kind).getD (pick (nextV rs a).y ((namesOf fs kind).length:Int)).toNat ⟨#[]⟩⟩,nextA rs a)
def opP (p2 p3 p4 kind:Int):Int × List Int :=
 if p2=0 then (17,[2,kind,kind])
 else if kind=1 then (if p3=0 then (3,[1]) else if p3=1 then (18,[3]) else (p3 - 2 + 5,[1,1]))
 else if kind=2 then (if p3=0 then (4,[2]) else if p3 < 3 then (15 + p3 - 1,[2,2]) else (11 + p3 - 3,[1 + p4,1 + p4]))
 else (10,[3,3])
def opks (kind:Int) (r:Rw):Int × List Int:=opP (pick r.x 6) (pick r.y 7) (pick r.x 3) kind
def listV (E:Int->Nat->Ex × Nat):List Int->Nat->List Ex × Nat
 | [],a => ([],a)
 | k :: ks,a => ((E k a).1 :: (listV E ks (E k a).2).1,(listV E ks (E k a).2).2)
theorem listV_snoc (E:Int->Nat->Ex × Nat) (k:Int):∀ (ks:List Int) (a:Nat),listV E (ks ++ [k]) a=((listV E ks a).1 ++ [(E k (listV E ks a).2).1],(E k (listV E ks a).2).2)
 | [],a => rfl
 | j :: ks,a => by
  have ih:=listV_snoc E k ks (E j a).2
  show ((E j a).1 :: (listV E (ks ++ [k]) (E j a).2).1,(listV E (ks ++ [k]) (E j a).2).2)=_
  rw [ih]; rfl
theorem listV_len (E:Int->Nat->Ex × Nat):∀ (ks:List Int) (a:Nat),(listV E ks a).1.length=ks.length
 | [],a => rfl
 | j :: ks,a => by
  show ((E j a).1 :: (listV E ks (E j a).2).1).length=_
  rw [List.length_cons,listV_len E ks]; rfl
def exprV (rs:List Rw) (fs:List (ByteArray × Int)):Nat->Int->Nat->Ex × Nat
 | 0 => fun kind a => (.mk (leafV rs fs kind (nextA rs a)).1 [],(leafV rs fs kind (nextA rs a)).2)
 | k + 1 => fun kind a =>
  if pick (nextV rs a).k 3=0 then (.mk (leafV rs fs kind (nextA rs a)).1 [],(leafV rs fs kind (nextA rs a)).2)
  else (.mk ⟨(opks kind (nextV rs a)).1,0,0,⟨#[]⟩,⟨#[]⟩⟩ (listV (exprV rs fs k) (opks kind (nextV rs a)).2 (nextA rs a)).1,(listV (exprV rs fs k) (opks kind (nextV rs a)).2 (nextA rs a)).2)
theorem exprV_leaf {rs:List Rw} {fs:List (ByteArray × Int)} {k:Nat} {kind:Int} {a:Nat} (h:k=0 ∨ pick (nextV rs a).k 3=0):exprV rs fs k kind a=(.mk (leafV rs fs kind (nextA rs a)).1 [],(leafV rs fs kind (nextA rs a)).2):=by
 cases k with
 | zero => rfl
 | succ k =>
  rcases h with h | h
  ·omega
  ·show (if _ then _ else _)=_
   rw [if_pos h]
theorem exprV_op {rs:List Rw} {fs:List (ByteArray × Int)} {k:Nat} {kind op:Int} {ks:List Int} {a a2:Nat} {l:List Ex} (h:pick (nextV rs a).k 3 ≠ 0) (ho:opks kind (nextV rs a)=(op,ks)) (hl:(l,a2)=listV (exprV rs fs k) ks (nextA rs a)):(.mk ⟨op,0,0,⟨#[]⟩,⟨#[]⟩⟩ l,a2)=exprV rs fs (k + 1) kind a:=by
 show _=(if _ then _ else _)
 rw [if_neg h,ho]
 dsimp only
 rw [← hl]
def MadeV (G:Nat) (A:Option Addr) (n c a:Nat) (R:Ex->Nat->Prop) (w:World) (e:Ending) (w':World):Prop :=
 ∃ (x:Ex) (d:Nd) (B:Option Addr) (m cp a':Nat),e=.returned (.agg #[.int .i64 d.op,.int .i64 d.k,.int .i64 d.n,.string d.s,.string d.nm,.slice B m cp])/\R x a'/\IsP (fun b => w.heap.size<=b) w' x d B m/\a'<=a/\Gen w' G A n c a'/\Gr G w w'
set_option maxHeartbeats 1000000 in
theorem constV_any (k rk ra rb:Int) (t:ByteArray) (w:World) (h1:(Lit.int .i64 rk).wf=true) (h2:(Lit.int .i64 ra).wf=true) (h3:t.size<=maxLen) :
  Calls Tryz.prog 55 #[.int .i64 k,.agg #[.int .i64 rk,.int .i64 ra,.int .i64 rb,.string t]] w fun e w' => e=.returned (.agg #[.int .i64 1,.int .i64 (vK k),.int .i64 (constN k ⟨rk,ra,rb,t⟩).n,.string (vS k t),.string ⟨#[]⟩,.slice none 0 0])/\Below w.heap.size w w':=by
 have hc:=fun W => value_any k rk ra rb t W h1 h2 h3
 have hk:=v_known k rk ra t
 by_cases e1:k=1
 ·subst e1
  obtain ⟨n,hn⟩:∃ n,vN 1 rk ra=n:=⟨_,rfl⟩
  have hok:okN n=true:=by
   have h:=hk
   rw [hn,show vK 1=1 from rfl] at h
   unfold knownB valE numE at h
   rw [if_pos rfl] at h
   cases hb:okN n
   ·rw [hb] at h; simp [isT] at h
   ·rfl
  obtain ⟨b1,b2⟩:=okN_iff.1 hok
  rw [hn,show vK 1=1 from rfl,show vS 1 t=⟨#[]⟩ from rfl] at hc
  obtain ⟨q,hq⟩:∃ q,(constN 1 ⟨rk,ra,rb,t⟩).n=q:=⟨_,rfl⟩
  have hq2:(if n < -n then -n else n)=q:=by rw [← hq]; unfold constN; simp only [hn,if_pos]
  rw [hq,show vK 1=1 from rfl,show vS 1 t=⟨#[]⟩ from rfl]
  have HQ:=Lib.hid hq2
  clear hq hq2
  have HC:=Lib.hid hc
  have HO:=Lib.hid hok
  clear hc hk hn hok
  go_enter Tryz.func55,Tryz.ntmps55
  go_wp2_with fail
  refine (HC.out _).mono ?_; rintro e w1 ⟨rfl,hb1⟩
  have hz:w.heap.size + 1 < w1.heap.size:=by have:=hb1.size; simp at this; omega
  obtain ⟨c1,d1⟩:=bcell hb1
  have hB:=b_then (b_then hb1)
  by_cases hneg:n < -n
  ·have t1:n < -n:=hneg
   go_wp2_with fail
   refine bodyPost_ret (v:=.agg #[.int .i64 1,.int .i64 1,.int .i64 (-n),.string ⟨#[]⟩,.string ⟨#[]⟩,.slice none 0 0]) (by simp [results,Tryz.results55,go_sem,c1,hz] <;> omega) rfl ?_
   refine ⟨by rw [← HQ.out,if_pos t1],?_⟩
   repeat' (first | (with_reducible exact hB) | (with_reducible refine b_more ?_ _) | (with_reducible refine b_set ?_ ?_) | (dsimp only; omega))
  ·have t1:¬ n < -n:=hneg
   go_wp2_with fail
   refine bodyPost_ret (v:=.agg #[.int .i64 1,.int .i64 1,.int .i64 n,.string ⟨#[]⟩,.string ⟨#[]⟩,.slice none 0 0]) (by simp [results,Tryz.results55,go_sem,c1,hz] <;> omega) rfl ?_
   refine ⟨by rw [← HQ.out,if_neg (by omega)],?_⟩
   repeat' (first | (with_reducible exact hB) | (with_reducible refine b_more ?_ _) | (with_reducible refine b_set ?_ ?_) | (dsimp only; omega))
 ·have t1:(k == 1)=false:=beq_eq_false_iff_ne.2 e1
  have hk1:vK k ≠ 1:=by unfold vK; rw [if_neg e1]; split <;> decide
  obtain ⟨kk,hkk⟩:∃ a,vK k=a:=⟨_,rfl⟩
  obtain ⟨n,hn⟩:∃ a,vN k rk ra=a:=⟨_,rfl⟩
  obtain ⟨s,hs⟩:∃ a,vS k t=a:=⟨_,rfl⟩
  have hq2:(constN k ⟨rk,ra,rb,t⟩).n=n:=by unfold constN; rw [if_neg e1]; exact hn
  rw [hq2,hkk,hs]
  clear hq2
  rw [hkk,hn,hs] at hc hk
  have HC:=Lib.hid hc
  have HK:=Lib.hid hk
  have HKK:=Lib.hid hkk
  have H1:=Lib.hid hk1
  clear hc hk hn hs hkk hk1 e1
  go_enter Tryz.func55,Tryz.ntmps55
  go_wp2_with fail
  refine (HC.out _).mono ?_; rintro e w1 ⟨rfl,hb1⟩
  have hz:w.heap.size + 1 < w1.heap.size:=by have:=hb1.size; simp at this; omega
  obtain ⟨c1,d1⟩:=bcell hb1
  have hB:=b_then (b_then hb1)
  go_wp2_with fail
  refine bodyPost_ret (v:=.agg #[.int .i64 1,.int .i64 kk,.int .i64 n,.string s,.string ⟨#[]⟩,.slice none 0 0]) (by simp [results,Tryz.results55,go_sem,c1,hz] <;> omega) rfl ?_
  refine ⟨rfl,?_⟩
  repeat' (first | (with_reducible exact hB) | (with_reducible refine b_more ?_ _) | (with_reducible refine b_set ?_ ?_) | (dsimp only; omega))
structure LInv (W0:World) (fs:List GenL.Fd) (kind:Int) (k:Nat) (names:List ByteArray) (v:Value) (wr:World):Prop where
 le:k<=fs.length
 own:wr.ownsRow W0.heap.size 9 1 v names.length (names.map Value.string)
 few:names.length<=k
 all:names=namesOf ((nts fs).take k) kind
 below:Below W0.heap.size W0 wr
theorem infoStr_:(Tryz.prog.info? 9).map (fun i => (i.zero,i.size,i.bytes))=some (some (.string ⟨#[]⟩),1,16):=by kernel_rfl
theorem LInv.step {W0 wr w3:World} {fs:List GenL.Fd} {kind:Int} {k:Nat} {names:List ByteArray} {v v':Value} {o1 o2:Obj} (h:LInv W0 fs kind k names v wr) (hk:k < fs.length) (hty:fs[k].ty=kind)
  (ho:w3.ownsRow W0.heap.size 9 1 v' (names.length + 1) (names.map Value.string ++ [.string fs[k].nm])) (hg:((wr.alloc o1).alloc o2).grownBy w3 v.ownBlock):LInv W0 fs kind (k + 1) (names ++ [fs[k].nm]) v' w3:=by
 have hs:=h.below.size
 refine ⟨hk,by simpa using ho,by have:=h.few; simp; omega,by rw [namesOf_yes hk hty,← h.all],((h.below.alloc hs _).alloc (by simp; omega) _).grown hg (by simp; omega) (fun g hg => (h.own.lt g hg).1)⟩
theorem LInv.skip {W0 wr:World} {fs:List GenL.Fd} {kind:Int} {k:Nat} {names:List ByteArray} {v:Value} {o1:Obj} (h:LInv W0 fs kind k names v wr) (hk:k < fs.length) (hty:fs[k].ty ≠ kind):LInv W0 fs kind (k + 1) names v (wr.alloc o1) :=
 ⟨hk,h.own.alloc o1,by have:=h.few; omega,by rw [namesOf_no hk hty]; exact h.all,h.below.alloc h.below.size _⟩
set_option maxHeartbeats 2000000 in
set_option maxRecDepth 100000 in
theorem leafV_any (G c a fc:Nat) (A FA:Option Addr) (rs:List Rw) (fs:List GenL.Fd) (kind:Int) (w:World) (hg:Gen w G A rs.length c a) (hr:RawsV w A rs c) (hf:Flds w FA fs) (hfn:fs.length<=1000000) (ha:a<=1000000000) :
  Calls Tryz.prog 31 #[.pointer (some ⟨G,0,none⟩),.int .i64 kind,.slice FA fs.length fc] w fun e w' => e=.returned (.agg #[.int .i64 (leafV rs (nts fs) kind a).1.op,.int .i64 (leafV rs (nts fs) kind a).1.k,.int .i64 (leafV rs (nts fs) kind a).1.n,.string (leafV rs (nts fs) kind a).1.s,.string (leafV rs (nts fs) kind a).1.nm,.slice none 0 0])/\Gen w' G A rs.length c (leafV rs (nts fs) kind a).2/\Gr G w w':=by
 obtain ⟨i0,hi,hz0,hz1,hz2⟩:=info_parts infoStr_
 obtain ⟨Rd,hRd⟩:∃ Rd,leafV rs (nts fs) kind a=Rd:=⟨_,rfl⟩
 rw [hRd]
 have gl:=hg.lt
 have hne:w.heap.size ≠ G:=by omega
 have hb0:=b_new w (.cells #[.int .i64 0,.int .i64 0,.int .i64 0,.string ⟨#[]⟩,.string ⟨#[]⟩,.slice none 0 0] 45)
 have hg1:=hg.below hb0
 have c1:=nextV_any G c a A rs _ hg1 (Gr.rawsV (Gr.of_below hb0) hg hr) ha
 unfold NextV at c1
 unfold leafV at hRd
 generalize nextV rs a=R at c1 hRd
 obtain ⟨K,X,Y,T⟩:=R
 simp only at c1 hRd
 generalize nextA rs a=a' at c1 hRd
 have HRD:=Lib.hid hRd
 clear hRd
 have hf1:=hf.below hb0
 have C1:=Lib.hid c1
 have HG:=Lib.hid hg1
 have HF:=Lib.hid hf1
 have HNE:=Lib.hid hne
 clear c1 hg hg1 hr hf hf1 hb0 hne
 go_enter Tryz.func31,Tryz.ntmps31
 go_wp2_with fail
 refine C1.out.mono ?_; rintro e w1 ⟨rfl,⟨k0,k1,k2,k3⟩,hg2,hgr⟩
 simp only at k0 k1 k2 k3
 obtain ⟨W0,hW0⟩:∃ W0,w1.alloc (.cells #[.int .i64 K,.int .i64 X,.int .i64 Y,.string T] 56)=W0:=⟨_,rfl⟩
 have hr0:w1.heap[w.heap.size]?=some (.cells #[.int .i64 0,.int .i64 0,.int .i64 0,.string ⟨#[]⟩,.string ⟨#[]⟩,.slice none 0 0] 45 (0,0)) :=
  (hgr.block w.heap.size (by simp) (fun e => HNE.out (by injection e))).trans (World.alloc_heap_new w _)
 have hf2:Flds W0 FA fs:=by rw [← hW0]; exact (Gr.flds hgr HG.out HF.out).below (b_new _ _)
 have hg3:Gen W0 G A rs.length c a':=by rw [← hW0]; exact hg2.alloc _
 have hgr2:Gr G w W0:=by rw [← hW0]; exact (Gr.of_below (b_new w _)).trans (hgr.trans (Gr.of_below (b_new _ _)))
 have hr1:W0.heap[w.heap.size]?=some (.cells #[.int .i64 0,.int .i64 0,.int .i64 0,.string ⟨#[]⟩,.string ⟨#[]⟩,.slice none 0 0] 45 (0,0)):=by
  rw [← hW0]; exact ((b_new w1 _).block _ (Array.getElem?_eq_some_iff.1 hr0).1).trans hr0
 have hr2:W0.heap[w1.heap.size]?=some (.cells #[.int .i64 K,.int .i64 X,.int .i64 Y,.string T] 56 (0,0)):=by rw [← hW0]; exact World.alloc_heap_new w1 _
 have hI0:LInv W0 fs kind 0 [] (.slice none 0 0) W0:=⟨Nat.zero_le _,World.ownsRow_nil _ _ _ _,Nat.le_refl _,rfl,Below.refl _ _⟩
 have HW0:=Lib.hid hW0
 have HF2:=Lib.hid hf2
 have HG3:=Lib.hid hg3
 have HGR:=Lib.hid hgr2
 have HR1:=Lib.hid hr1
 have HR2:=Lib.hid hr2
 have HI0:=Lib.hid hI0
 clear hr0 hf2 hg3 hgr2 hr1 hr2 hI0 hg2 hgr hW0 HG HF
 go_wp2_with fail
 rw [HW0.out]
 go_loopw [8,15] (fun v i wr => ∃ (k:Nat) (names:List ByteArray),i=.int .i64 k/\LInv W0 fs kind k names v wr) (fun _ i _ => fs.length - (intOf i).toNat)
 case atStart => exact ⟨0,[],rfl,HI0.out⟩
 case round =>
  obtain ⟨k,names,rfl,hI⟩:=hrel
  have hle:=hI.le
  have hfew:=hI.few
  have HI:=Lib.hid hI
  by_cases hlt:k < fs.length
  ·obtain ⟨ad,rfl,hat⟩:=HF2.out k hlt
   obtain ⟨q0,q1,q2,q3,q4,q5,q6,q7,q8⟩:=hat.of_block (hI.below.block _ hat.lt)
   obtain ⟨f,hfk⟩:∃ f,fs[k]=f:=⟨_,rfl⟩
   rw [hfk] at q0 q1 q2 q3 q4 q5 q6 q7 q8
   have hown:=(hI.own.alloc (.cells #[.string f.nm,.int .i64 f.kind,.int .i64 f.ty,.int .i64 f.d.op,.int .i64 f.d.k,.int .i64 f.d.n,.string f.d.s,.string f.d.nm,.slice f.A f.n f.c] 47)).alloc (.cells #[.string f.nm] 9)
   have hs:=hI.below.size
   have HFK:=Lib.hid hfk
   clear hI hat hfk
   by_cases hty:f.ty=kind
   ·have t1:(f.ty == kind)=true:=beq_iff_eq.2 hty
    have HTY:=Lib.hid hty
    clear hty
    go_wp2_with (at_builtin; refine wpList_append_own _ rfl _ _ 31 rfl W0.heap.size 9 i0 (.string ⟨#[]⟩) 1 16 Tryz.underlying31 hi hz0 hz1 hz2 rfl (by decide) _ _ _ rfl hown ⟨wr.heap.size + 1,0,none⟩ 1 1 [.string f.nm] rfl rfl ?c1 ?c2 ?c3 ?c4 ?c5 ?_)
    case c1 =>
     intro j y hj
     match j,hj with
     | 0,hj => simp at hj; subst hj; simp [Addr.add]
     | j + 1,hj => simp at hj
    case c2 => intro y hy; simp at hy; subst hy; rfl
    case c3 => unfold maxLen; omega
    case c4 => omega
    case c5 => simp; omega
    intro v' w3 hown3 hgrow _
    have hN:=HI.out.step hlt (by rw [HFK.out]; exact HTY.out) (by rw [HFK.out]; exact hown3) hgrow
    have HN:=Lib.hid hN
    clear hN hown3 hgrow hown
    go_wp2
    go_roundw
    case rel => exact ⟨k + 1,_,by go_num,HN.out⟩
    case measure => simp [intOf]; omega
   ·have t1:(f.ty == kind)=false:=beq_eq_false_iff_ne.2 hty
    have HTY:=Lib.hid hty
    clear hty
    have hN:=HI.out.skip (hty:=by rw [HFK.out]; exact HTY.out) (o1:=.cells #[.string f.nm,.int .i64 f.kind,.int .i64 f.ty,.int .i64 f.d.op,.int .i64 f.d.k,.int .i64 f.d.n,.string f.d.s,.string f.d.nm,.slice f.A f.n f.c] 47) hlt
    have HN:=Lib.hid hN
    clear hN HTY
    go_wp2_with fail
    go_roundw
    case rel => exact ⟨k + 1,names,by go_num,HN.out⟩
    case measure => simp [intOf]; omega
  ·obtain ⟨A2,cp,rfl⟩:=own_slice hI.own
   obtain ⟨pk,hpk⟩:∃ pk,pick K 4=pk:=⟨_,rfl⟩
   have hr3:wr.heap[w.heap.size]?=some (.cells #[.int .i64 0,.int .i64 0,.int .i64 0,.string ⟨#[]⟩,.string ⟨#[]⟩,.slice none 0 0] 45 (0,0)):=(hI.below.block _ (Array.getElem?_eq_some_iff.1 HR1.out).1).trans HR1.out
   have hr4:wr.heap[w1.heap.size]?=some (.cells #[.int .i64 K,.int .i64 X,.int .i64 Y,.string T] 56 (0,0)):=(hI.below.block _ (Array.getElem?_eq_some_iff.1 HR2.out).1).trans HR2.out
   have e0:wr.cell? ⟨w1.heap.size,0,none⟩=some (.int .i64 K):=by simp [World.cell?,hr4]
   have e1:wr.cell? ⟨w1.heap.size,1,none⟩=some (.int .i64 X):=by simp [World.cell?,hr4]
   have e2:wr.cell? ⟨w1.heap.size,2,none⟩=some (.int .i64 Y):=by simp [World.cell?,hr4]
   have e3:wr.cell? ⟨w1.heap.size,3,none⟩=some (.string T):=by simp [World.cell?,hr4]
   have hgw:Gr G w wr:=HGR.out.trans ⟨hI.below.os,hI.below.tape,hI.below.output,hI.below.size,fun k hk _ => hI.below.block k hk⟩
   have hgn:Gen wr G A rs.length c a':=HG3.out.below hI.below
   have hp:=fun W => picked_any K 4 W k0 (by decide) (by decide)
   rw [hpk] at hp
   have HP:=Lib.hid hp
   have HGW:=Lib.hid hgw
   have HGN:=Lib.hid hgn
   have hkl:k=fs.length:=by omega
   have hnames:names=namesOf (nts fs) kind:=by
    have:=HI.out.all
    rwa [hkl,← nts_len fs,List.take_length] at this
   have hrd:=HRD.out
   rw [← hnames,hpk] at hrd
   have HRd:=Lib.hid hrd
   clear hp hI hr4 hgw hgn hpk hkl hnames hrd
   by_cases hcon:names.length=0 ∨ pk=0
   ·have hc:=constV_any kind K X Y T wr k0 k1 k3
    have hrd:(constN kind ⟨K,X,Y,T⟩,a')=Rd:=by rw [← HRd.out,if_pos hcon]
    have hcd:(constN kind ⟨K,X,Y,T⟩).op=1/\(constN kind ⟨K,X,Y,T⟩).k=vK kind/\(constN kind ⟨K,X,Y,T⟩).s=vS kind T/\(constN kind ⟨K,X,Y,T⟩).nm=⟨#[]⟩:=⟨rfl,rfl,rfl,rfl⟩
    obtain ⟨cn,hcn⟩:∃ x,constN kind ⟨K,X,Y,T⟩=x:=⟨_,rfl⟩
    rw [hcn] at hc hrd hcd
    obtain ⟨cop,ck,cN,cs,cnm⟩:=cn
    simp only at hc hcd
    obtain ⟨rfl,hck,hcs,rfl⟩:=hcd
    rw [← hck,← hcs] at hc
    have HR2:=Lib.hid hrd
    clear hck hcs hcn hrd
    have HC:=Lib.hid hc
    clear hc
    obtain ⟨b,hb⟩:∃ b:Bool,((names.length:Int) == 0)=b:=⟨_,rfl⟩
    have hb2:b=true ∨ (b=false/\pk=0):=by
     rcases hcon with h | h
     ·left; rw [← hb,h]; rfl
     ·cases b
      ·exact .inr ⟨rfl,h⟩
      ·exact .inl rfl
    clear hcon
    rcases hb2 with rfl | ⟨rfl,rfl⟩
    all_goals
     go_wp2_with (go_at_call 7; refine (HP.out _).mono ?_; rintro e w5 ⟨rfl,rfl⟩)
     refine HC.out.mono ?_; rintro e w5 ⟨rfl,hb5⟩
     have hr5:w5.heap[w.heap.size]?=some (.cells #[.int .i64 0,.int .i64 0,.int .i64 0,.string ⟨#[]⟩,.string ⟨#[]⟩,.slice none 0 0] 45 (0,0)):=(hb5.block _ (Array.getElem?_eq_some_iff.1 hr3).1).trans hr3
     have hc5:∀ o,w5.cell? ⟨w.heap.size,o,none⟩=(#[.int .i64 0,.int .i64 0,.int .i64 0,.string ⟨#[]⟩,.string ⟨#[]⟩,.slice none 0 0]:Array Value)[o]?:=fun o => by simp [World.cell?,hr5]
     have hf5:∀ o,w5.frozen? ⟨w.heap.size,o,none⟩=false:=fun o => by simp [World.frozen?,hr5]
     have HGW5:=Lib.hid (HGW.out.trans (Gr.of_below hb5))
     have HGN5:=Lib.hid (HGN.out.below hb5)
     clear hb5 hr5
     go_wp2_with fail
     refine bodyPost_ret (v:=.agg #[.int .i64 1,.int .i64 ck,.int .i64 cN,.string cs,.string ⟨#[]⟩,.slice none 0 0]) (by simp [results,Tryz.results31,go_sem,hc5]) rfl ?_
     rw [← HR2.out]
     refine ⟨rfl,?_,?_⟩
     ·have:=HGN5.out
      repeat' (first | (with_reducible exact this) | (with_reducible refine Gen.far ?_ ?_ _) | (dsimp only; omega))
     ·have:=HGW5.out
      repeat' (first | (with_reducible exact this) | (with_reducible refine Gr.set ?_ ?_) | (dsimp only; omega))
   ·have hlen:0 < names.length:=by omega
    have hpk0:(pk == 0)=false:=beq_eq_false_iff_ne.2 (fun h => hcon (.inr h))
    have hlen0:((names.length:Int) == 0)=false:=beq_eq_false_iff_ne.2 (by omega)
    obtain ⟨g,cap2,hv,_,hgl,_,_,hcl⟩:=own_form HI.out.own hlen
    injection hv with hv1 _ _
    subst hv1
    obtain ⟨q,hq⟩:∃ q,pick Y (names.length:Int)=q:=⟨_,rfl⟩
    obtain ⟨hq0,hq1⟩:=pick_bd Y (names.length:Int) (by omega)
    have hp2:=fun W => picked_any Y (names.length:Int) W k2 (by omega) (by omega)
    rw [hq] at hq0 hq1 hp2
    obtain ⟨qn,rfl⟩:∃ qn:Nat,q=qn:=⟨q.toNat,by omega⟩
    have hql:qn < names.length:=by omega
    have hcq:wr.cell? ⟨g,qn,none⟩=some (.string names[qn]):=by
     rw [hcl qn (by omega)]; simp [hql]
    have hrd:((⟨2,0,0,⟨#[]⟩,names[qn]⟩:Nd),a')=Rd:=by
     rw [← HRd.out,if_neg hcon,hq,Int.toNat_natCast,getD_lt hql]
    obtain ⟨nmq,hnm⟩:∃ x,names[qn]=x:=⟨_,rfl⟩
    rw [hnm] at hcq hrd
    have HM:=Lib.hid hrd
    have HP2:=Lib.hid hp2
    have hc5:∀ o,wr.cell? ⟨w.heap.size,o,none⟩=(#[.int .i64 0,.int .i64 0,.int .i64 0,.string ⟨#[]⟩,.string ⟨#[]⟩,.slice none 0 0]:Array Value)[o]?:=fun o => by simp [World.cell?,hr3]
    have hf5:∀ o,wr.frozen? ⟨w.heap.size,o,none⟩=false:=fun o => by simp [World.frozen?,hr3]
    clear hp2 hrd hnm hcl hr3 hcon hq
    go_wp2_with (first | (go_at_call 7; (with_reducible refine (HP.out _).mono ?_); rintro e w5 ⟨rfl,rfl⟩) | (go_at_call 7; (with_reducible refine (HP2.out _).mono ?_); rintro e w5 ⟨rfl,rfl⟩))
    refine bodyPost_ret (v:=.agg #[.int .i64 2,.int .i64 0,.int .i64 0,.string ⟨#[]⟩,.string nmq,.slice none 0 0]) (by simp [results,Tryz.results31,go_sem,hc5]) rfl ?_
    rw [← HM.out]
    refine ⟨rfl,?_,?_⟩
    ·have:=HGN.out
     repeat' (first | (with_reducible exact this) | (with_reducible refine Gen.far ?_ ?_ _) | (dsimp only; omega))
    ·have:=HGW.out
     repeat' (first | (with_reducible exact this) | (with_reducible refine Gr.set ?_ ?_) | (dsimp only; omega))
structure WInv (w:World) (G:Nat) (A:Option Addr) (rs:List Rw) (c a k:Nat) (fs:List GenL.Fd) (op:Int) (ks:List Int) (j:Nat) (es:List El) (v:Value) (wr:World):Prop where
 le:j<=ks.length
 len:es.length=j
 own:wr.ownsRow (w.heap.size + 2) 45 6 v es.length (elC es)
 is:∀ e ∈ es,IsP (fun b => w.heap.size + 2<=b/\some b ≠ v.ownBlock) wr e.x e.d e.A e.n
 res:wr.heap[w.heap.size]?=some (.cells #[.int .i64 0,.int .i64 0,.int .i64 0,.string ⟨#[]⟩,.string ⟨#[]⟩,.slice none 0 0] 45 (0,0))
 box:wr.heap[w.heap.size + 1]?=some (.cells #[.int .i64 op,.int .i64 0,.int .i64 0,.string ⟨#[]⟩,.string ⟨#[]⟩,v] 45 (0,0))
 gen:∃ a',((es.map El.x,a')=listV (exprV rs (nts fs) k) (ks.take j) a/\a'<=a + j * cost k)/\Gen wr G A rs.length c a'
 gr:Gr G w wr
def ExprAt (k:Nat):Prop:=∀ (G c a fc:Nat) (A FA:Option Addr) (rs:List Rw) (fs:List GenL.Fd) (kind:Int) (w:World),Gen w G A rs.length c a->RawsV w A rs c->Flds w FA fs->fs.length<=1000000->(∀ f ∈ fs,f.nm.size<=maxLen)->a + cost k<=1000000000 →
 Calls Tryz.prog 17 #[.pointer (some ⟨G,0,none⟩),.int .i64 kind,.slice FA fs.length fc,.int .i64 (k:Int)] w (MadeV G A rs.length c (a + cost k) (fun x a' => (x,a')=exprV rs (nts fs) k kind a) w)
theorem WInv.step {w wr w5 w6:World} {G:Nat} {A:Option Addr} {rs:List Rw} {c a k:Nat} {fs:List GenL.Fd} {op:Int} {ks:List Int} {j:Nat} {es:List El} {v:Value} {x:Ex} {d:Nd} {B:Option Addr} {m cp a' a2 gg cap:Nat} {tmp:Obj} (h:WInv w G A rs c a k fs op ks j es v wr) (hj:j < ks.length) (hG:G < w.heap.size)
  (ha':(es.map El.x,a')=listV (exprV rs (nts fs) k) (ks.take j) a/\a'<=a + j * cost k) (hx:(x,a2)=exprV rs (nts fs) k ks[j] a') (hisx:IsP (fun b => wr.drew.heap.size<=b) w5 x d B m) (ha2:a2<=a' + cost k) (hg2:Gen w5 G A rs.length c a2) (hgr2:Gr G wr.drew w5)
  (hown6:w6.ownsRow (w.heap.size + 2) 45 6 (.slice (some ⟨gg,0,none⟩) (es.length + 1) cap) (es.length + 1) (elC es ++ [.int .i64 d.op,.int .i64 d.k,.int .i64 d.n,.string d.s,.string d.nm,.slice B m cp]))
  (hgrow6:(w5.alloc tmp).grownBy w6 v.ownBlock) (hat6:v.ownBlock=some gg ∨ gg=w5.heap.size + 1) :
  WInv w G A rs c a k fs op ks (j + 1) (es ++ [⟨x,d,B,m,cp⟩]) (.slice (some ⟨gg,0,none⟩) (es.length + 1) cap) (w6.setCell ⟨w.heap.size + 1,5,none⟩ (.slice (some ⟨gg,0,none⟩) (es.length + 1) cap)):=by
 have hbl:=(Array.getElem?_eq_some_iff.1 h.box).1
 have hs5:wr.heap.size<=w5.heap.size:=hgr2.size
 have hgg:w.heap.size + 2<=gg:=(hown6.lt gg rfl).1
 have hge:Value.ownBlock (.slice (some ⟨gg,0,none⟩) (es.length + 1) cap)=some gg:=rfl
 have hov:∀ g,v.ownBlock=some g->w.heap.size + 2<=g/\g < wr.heap.size:=fun g hg => h.own.lt g hg
 -- blocks that all this leaves alone
 have f5:∀ b,b < w5.heap.size->some b ≠ v.ownBlock->b ≠ w.heap.size + 1->(w6.setCell ⟨w.heap.size + 1,5,none⟩ (.slice (some ⟨gg,0,none⟩) (es.length + 1) cap)).heap[b]?=w5.heap[b]?:=fun b hl hne hx =>
  (Below.heap_setCell w6 ⟨w.heap.size + 1,5,none⟩ _ b hx).trans (app_keep hgrow6 hl hne)
 have f0:∀ b,b < wr.heap.size->b ≠ G->some b ≠ v.ownBlock->b ≠ w.heap.size + 1->(w6.setCell ⟨w.heap.size + 1,5,none⟩ (.slice (some ⟨gg,0,none⟩) (es.length + 1) cap)).heap[b]?=wr.heap[b]?:=fun b hl hg hne hx =>
  (f5 b (by omega) hne hx).trans (hgr2.block b hl (fun e => hg (by injection e)))
 have hnb:∀ b,b < w.heap.size + 2->some b ≠ v.ownBlock:=fun b hb => own_far h.own hb
 refine ⟨hj,by simp [h.len],?_,?_,?_,?_,?_,?_⟩
 ·rw [elC_snoc,List.length_append]
  refine World.ownsRow.kept (row:=some (w.heap.size + 1)) hown6 ⟨rfl,rfl,rfl,by simp [World.setCell],fun k _ hk => Below.heap_setCell _ _ _ k (fun e => hk (by rw [e]))⟩ (.inr ?_)
  rw [hge]; intro e; injection e with e; omega
 ·intro e he
  rcases List.mem_append.1 he with he | he
  ·refine IsP.keep (fun b hb hl => f0 b hl (by omega) hb.2 (by omega)) (fun b hb hl => ⟨hb.1,?_⟩) _ _ _ _ (h.is e he)
   rw [hge]; intro e; injection e with e
   rcases hat6 with g | g
   ·exact hb.2 (by rw [g,e])
   ·omega
  ·simp at he; subst he
   refine IsP.keep (fun b hb hl => ?_) (fun b hb hl => ⟨?_,?_⟩) _ _ _ _ hisx
   ·have hb':wr.heap.size<=b:=hb
    exact f5 b hl (fun e => by have:=(hov b e.symm).2; omega) (by omega)
   ·have hb':wr.heap.size<=b:=hb
    omega
   ·have hb':wr.heap.size<=b:=hb
    rw [hge]; intro e; injection e with e
    rcases hat6 with g | g
    ·have:=(hov gg g).2; omega
    ·omega
 ·exact (f0 _ (Array.getElem?_eq_some_iff.1 h.res).1 (by omega) (hnb _ (by omega)) (by omega)).trans h.res
 ·have h6:w6.heap[w.heap.size + 1]?=_:=((app_keep hgrow6 (by omega) (hnb _ (by omega))).trans (hgr2.block _ hbl (fun e => by injection e with e; omega))).trans h.box
  simp [World.setCell,Array.getElem?_modify,h6]
 ·refine ⟨a2,⟨?_,by rw [Nat.add_mul,Nat.one_mul]; have:=ha'.2; omega⟩,?_⟩
  ·rw [show ks.take (j + 1)=ks.take j ++ [ks[j]] by rw [List.take_add_one,List.getElem?_eq_getElem hj]; rfl,listV_snoc,← ha'.1]
   dsimp only
   rw [← hx,List.map_append]; rfl
  exact (f5 G hg2.lt (hnb G (by omega)) (by omega)).trans hg2
 ·refine ⟨?_,?_,?_,?_,fun b hb hne => ?_⟩
  ·exact hgrow6.os.trans (hgr2.os.trans h.gr.os)
  ·exact hgrow6.tape.trans (hgr2.tape.trans h.gr.tape)
  ·exact hgrow6.output.trans (hgr2.output.trans h.gr.output)
  ·have h1:=h.gr.size
   have h2:=hgrow6.size
   simp [World.setCell] at h2 ⊢; omega
  ·exact (f0 b (by have:=h.gr.size; omega) (fun e => hne (by rw [e])) (hnb b (by omega)) (by omega)).trans (h.gr.block b hb hne)
set_option maxHeartbeats 2000000 in
set_option maxRecDepth 100000 in
theorem with_any (k:Nat) (hE:ExprAt k) (G c a fc Bg Bf Bd kb kc:Nat) (A FA:Option Addr) (rs:List Rw) (fs:List GenL.Fd) (op:Int) (ks:List Int) (w:World) (hg:Gen w G A rs.length c a) (hr:RawsV w A rs c) (hf:Flds w FA fs) (hfn:fs.length<=1000000) (hfs:∀ f ∈ fs,f.nm.size<=maxLen) (ha:a + ks.length * cost k<=1000000000)
  (h1:Boxed w Bg 52 (.pointer (some ⟨G,0,none⟩))) (h2:Boxed w Bf 26 (.slice FA fs.length fc)) (dp:Int) (hdp:dp=(k:Int) + 1) (h3:Boxed w Bd 3 (.int .i64 dp)) (h4:w.heap[kb]?=some (.cells (ks.map (Value.int .i64)).toArray 3 (0,0))) (hk0:0 < ks.length) (hks:ks.length<=3) (hk3:k<=1000000) :
  Calls Tryz.prog 32 #[.int .i64 op,.slice (some ⟨kb,0,none⟩) ks.length kc,.pointer (some ⟨Bg,0,none⟩),.pointer (some ⟨Bf,0,none⟩),.pointer (some ⟨Bd,0,none⟩)] w
   (MadeV G A rs.length c (a + ks.length * cost k) (fun x a' => ∃ l,x=.mk ⟨op,0,0,⟨#[]⟩,⟨#[]⟩⟩ l/\(l,a')=listV (exprV rs (nts fs) k) ks a) w):=by
 obtain ⟨i0,hi,hz0,hz1,hz2⟩:=info_parts infoEx
 have gl:=hg.lt
 have l1:=h1.lt
 have l2:=h2.lt
 have l3:=h3.lt
 have l4:=(Array.getElem?_eq_some_iff.1 h4).1
 have n1:Bg ≠ G:=fun e => by subst e; unfold Boxed at h1; unfold RawL.Gen at hg; rw [h1] at hg; simp at hg
 have n2:Bf ≠ G:=fun e => by subst e; unfold Boxed at h2; unfold RawL.Gen at hg; rw [h2] at hg; simp at hg
 have n3:Bd ≠ G:=fun e => by subst e; unfold Boxed at h3; unfold RawL.Gen at hg; rw [h3] at hg; simp at hg
 have n4:kb ≠ G:=fun e => by subst e; unfold RawL.Gen at hg; rw [h4] at hg; simp at hg
 have hI0:∀ o1 o2,o1=Obj.cells #[.int .i64 0,.int .i64 0,.int .i64 0,.string ⟨#[]⟩,.string ⟨#[]⟩,.slice none 0 0] 45->o2=Obj.cells #[.int .i64 op,.int .i64 0,.int .i64 0,.string ⟨#[]⟩,.string ⟨#[]⟩,.slice none 0 0] 45->WInv w G A rs c a k fs op ks 0 [] (.slice none 0 0) ((w.alloc o1).alloc o2):=fun o1 o2 e1 e2 => by
  subst e1 e2
  refine ⟨Nat.zero_le _,rfl,World.ownsRow_nil _ _ _ _,fun e he => by simp at he,?_,?_,⟨a,⟨rfl,by omega⟩,(hg.alloc _).alloc _⟩,Gr.of_below (b_more (b_new _ _) _)⟩
  ·exact ((b_new (w.alloc _) _).block _ (by simp)).trans (World.alloc_heap_new w _)
  ·have:=World.alloc_heap_new (w.alloc (.cells #[.int .i64 0,.int .i64 0,.int .i64 0,.string ⟨#[]⟩,.string ⟨#[]⟩,.slice none 0 0] 45)) (.cells #[.int .i64 op,.int .i64 0,.int .i64 0,.string ⟨#[]⟩,.string ⟨#[]⟩,.slice none 0 0] 45)
   rw [World.size_alloc] at this; exact this
 have HI0:=Lib.hid (hI0 _ _ rfl rfl)
 have HR:=Lib.hid hr
 have HF:=Lib.hid hf
 have HG:=Lib.hid hg
 have HFS:=Lib.hid hfs
 have H1:=Lib.hid h1
 have H2:=Lib.hid h2
 have H3:=Lib.hid h3
 have H4:=Lib.hid h4
 have HN:=Lib.hid (And.intro n1 (And.intro n2 (And.intro n3 n4)))
 have HE:=Lib.hid hE
 have HDP:=Lib.hid hdp
 clear hdp
 clear hI0 hr hf hg hfs h1 h2 h3 h4 n1 n2 n3 n4 hE
 go_enter Tryz.func32,Tryz.ntmps32
 go_wp2_with fail
 go_loopw [15] (fun i wr => ∃ (j:Nat) (es:List El) (v:Value),i=.int .i64 j/\WInv w G A rs c a k fs op ks j es v wr) (fun i _ => ks.length - (intOf i).toNat)
 case atStart => exact ⟨0,[],_,rfl,HI0.out⟩
 case round =>
  obtain ⟨j,es,v,rfl,hI⟩:=hrel
  have HI:=Lib.hid hI
  have hle:=hI.le
  have hs:=hI.gr.size
  have hs2:w.heap.size + 2<=wr.heap.size:=(Array.getElem?_eq_some_iff.1 hI.box).1
  by_cases hlt:j < ks.length
  ·obtain ⟨a',ha',hg'⟩:=hI.gen
   have c1:wr.cell? ⟨Bg,0,none⟩=some (.pointer (some ⟨G,0,none⟩)):=Boxed.cell ((hI.gr.block Bg l1 (fun e => HN.out.1 (by injection e))).trans H1.out)
   have c2:wr.cell? ⟨Bf,0,none⟩=some (.slice FA fs.length fc):=Boxed.cell ((hI.gr.block Bf l2 (fun e => HN.out.2.1 (by injection e))).trans H2.out)
   have c3:wr.cell? ⟨Bd,0,none⟩=some (.int .i64 dp):=Boxed.cell ((hI.gr.block Bd l3 (fun e => HN.out.2.2.1 (by injection e))).trans H3.out)
   have hkb:wr.heap[kb]?=some (.cells (ks.map (Value.int .i64)).toArray 3 (0,0)):=(hI.gr.block kb l4 (fun e => HN.out.2.2.2 (by injection e))).trans H4.out
   obtain ⟨kj,hkj⟩:∃ x,ks[j]=x:=⟨_,rfl⟩
   have HKJ:=Lib.hid hkj
   have c4:wr.cell? ⟨kb,j,none⟩=some (.int .i64 kj):=by simp [World.cell?,hkb,hlt,hkj]
   have c5:wr.cell? ⟨w.heap.size + 1,5,none⟩=some v:=by simp [World.cell?,hI.box]
   have h9:j * cost k + cost k<=ks.length * cost k:=by rw [← Nat.succ_mul]; exact Nat.mul_le_mul_right _ hlt
   have hgd:Gr G w wr.drew:=hI.gr.trans (Gr.of_below (b_drew (Below.refl _ _)))
   have hc:=HE.out G c a' fc A FA rs fs kj wr.drew hg' (Gr.rawsV hgd HG.out HR.out) (Gr.flds hgd HG.out HF.out) hfn HFS.out (by have:=ha'.2; omega)
   have HC:=Lib.hid hc
   have HGA:=Lib.hid (And.intro ha' hg')
   have hbox:=hI.box
   have hnG:w.heap.size + 1 ≠ G:=by omega
   have f5:∀ o,wr.frozen? ⟨w.heap.size + 1,o,none⟩=false:=fun o => by simp [World.frozen?,hbox]
   have hsum:IntKind.i64.wrap (dp - 1)=(k:Int):=by rw [IntWalk.i64_in _ (by have:=HDP.out; omega)]; have:=HDP.out; omega
   have hcs:∀ V,Gr G wr.drew V->(V.cell? ⟨Bg,0,none⟩=some (.pointer (some ⟨G,0,none⟩))/\V.cell? ⟨Bf,0,none⟩=some (.slice FA fs.length fc)/\V.cell? ⟨Bd,0,none⟩=some (.int .i64 dp)/\V.cell? ⟨w.heap.size + 1,5,none⟩=some v)/\(∀ o,V.frozen? ⟨w.heap.size + 1,o,none⟩=false):=fun V hV => by
    have hl5:=cell_lt' c5
    have b5:V.heap[w.heap.size + 1]?=wr.heap[w.heap.size + 1]?:=hV.block _ hl5 (fun e => hnG (by injection e))
    refine ⟨⟨(World.cell?_of_block (a:=⟨Bg,0,none⟩) (hV.block _ (cell_lt' c1) (fun e => HN.out.1 (by injection e)))).trans c1,(World.cell?_of_block (a:=⟨Bf,0,none⟩) (hV.block _ (cell_lt' c2) (fun e => HN.out.2.1 (by injection e)))).trans c2,(World.cell?_of_block (a:=⟨Bd,0,none⟩) (hV.block _ (cell_lt' c3) (fun e => HN.out.2.2.1 (by injection e)))).trans c3,(World.cell?_of_block (a:=⟨w.heap.size + 1,5,none⟩) b5).trans c5⟩,fun o => by simp [World.frozen?,b5,hbox]⟩
   have hcs2:∀ V W' o,Gr G wr.drew V->(V.alloc o).grownBy W' v.ownBlock->(W'.cell? ⟨Bg,0,none⟩=some (.pointer (some ⟨G,0,none⟩))/\W'.cell? ⟨Bf,0,none⟩=some (.slice FA fs.length fc)/\W'.cell? ⟨Bd,0,none⟩=some (.int .i64 dp)/\W'.cell? ⟨w.heap.size + 1,5,none⟩=some v)/\(∀ o,W'.frozen? ⟨w.heap.size + 1,o,none⟩=false):=fun V W' o hV hW => by
    obtain ⟨⟨p1,p2,p3,p5⟩,pf⟩:=hcs V hV
    have f:=fun b (hb:b < w.heap.size + 2) (hl:b < V.heap.size) => app_keep hW hl (own_far HI.out.own hb)
    have b5:=f (w.heap.size + 1) (by omega) (cell_lt' p5)
    exact ⟨⟨(World.cell?_of_block (a:=⟨Bg,0,none⟩) (f Bg (by omega) (cell_lt' p1))).trans p1,(World.cell?_of_block (a:=⟨Bf,0,none⟩) (f Bf (by omega) (cell_lt' p2))).trans p2,(World.cell?_of_block (a:=⟨Bd,0,none⟩) (f Bd (by omega) (cell_lt' p3))).trans p3,(World.cell?_of_block (a:=⟨w.heap.size + 1,5,none⟩) b5).trans p5⟩,fun o => (World.frozen?_of_block (a:=⟨w.heap.size + 1,o,none⟩) b5).trans (pf o)⟩
   have HCs:=Lib.hid hcs
   have HCs2:=Lib.hid hcs2
   have hl5:∀ V:World,Gr G wr.drew V->w.heap.size + 1 < V.heap.size:=fun V hV => Nat.lt_of_lt_of_le (show w.heap.size + 1 < wr.heap.size by omega) hV.size
   have hl6:∀ (V:World) (o:Obj),Gr G wr.drew V->w.heap.size + 2<=(V.alloc o).heap.size:=fun V o hV => by have:=hl5 V hV; simp; omega
   have HL5:=Lib.hid hl5
   have HL6:=Lib.hid hl6
   clear hl5 hl6
   have hel:es.length=j:=HI.out.len
   have hel1:es.length<=3:=by omega
   clear hkj hkb hI hc ha' hg' hcs hcs2 hbox hel
   go_wp2_with fail
   go_region_law (first
     | (refine step_append_lies _ (by rfl) _ _ _ (by rfl) (w.heap.size + 2) 45 i0 _ 6 80 Tryz.underlying43 hi hz0 hz1 hz2 rfl (by omega) v es.length (elC es) (by rfl) (own5.alloc _) ⟨w5.heap.size,0,none⟩ 1 1 [.int .i64 d.op,.int .i64 d.k,.int .i64 d.n,.string d.s,.string d.nm,.slice B m cp] (by rfl) (by rfl) (World.news_of_block (cs:=#[.int .i64 d.op,.int .i64 d.k,.int .i64 d.n,.string d.s,.string d.nm,.slice B m cp]) (t:=45) (fr:=(0,0)) (heap_alloc_new w5 _)) (by simp [Value.oneCell']) (by omega) (by unfold maxLen; omega) (by omega) hz6 (w5.heap.size + 1) (by simp) ?_; intro gg cap w6 hown6 hgrow6 hat6 hlt6; obtain ⟨⟨q1',q2',q3',q5'⟩,qf'⟩:=HCs2.out w5 w6 _ HX.out.2.2.2.2 hgrow6; have H6:=Lib.hid (And.intro hown6 (And.intro hgrow6 (And.intro hat6 hlt6))); clear hown6 hgrow6 hat6)
     | (go_simp; go_at_call 17; (with_reducible refine HC.out.mono ?_); rintro e w5 ⟨x,d,B,m,cp,a2,rfl,hx,hisx,ha2,hg2,hgr2⟩; obtain ⟨⟨q1,q2,q3,q5⟩,qf⟩:=HCs.out w5 hgr2; have own5:=HI.out.own.kept (Gr.trans (Gr.of_below (b_drew (Below.refl _ _))) hgr2) (.inr (own_far HI.out.own (b:=G) (by omega)).symm); have hz5:=HL5.out w5 hgr2; have hz6:=HL6.out w5 (.cells #[.int .i64 d.op,.int .i64 d.k,.int .i64 d.n,.string d.s,.string d.nm,.slice B m cp] 45) hgr2; have HX:=Lib.hid (And.intro hx (And.intro hisx (And.intro ha2 (And.intro hg2 hgr2)))); clear hx hisx ha2 hg2 hgr2))
   all_goals
    have hN:=HI.out.step (x:=x) (d:=d) (B:=B) (m:=m) (cp:=cp) (tmp:=.cells #[.int .i64 d.op,.int .i64 d.k,.int .i64 d.n,.string d.s,.string d.nm,.slice B m cp] 45) hlt gl HGA.out.1 (by rw [HKJ.out]; exact HX.out.1) HX.out.2.1 HX.out.2.2.1 HX.out.2.2.2.1 HX.out.2.2.2.2 H6.out.1 H6.out.2.1 H6.out.2.2.1
    have HN:=Lib.hid hN
    clear hN q1 q2 q3 q5 qf q1' q2' q3' q5' qf' own5 H6 HX HC HCs HCs2 hsum c1 c2 c3 c4 c5 f5
    go_wp2_with fail
    go_roundw
    case rel => exact ⟨j + 1,_,_,by go_num,HN.out⟩
    case measure => simp [intOf]; omega
  ·have hjl:j=ks.length:=by omega
   have hel:=hI.len
   obtain ⟨g,cap,rfl,hgl,_,hlc,hcm,hcl⟩:=own_form hI.own (by omega)
   have hrow:=isP_row (P:=fun b => w.heap.size + 2<=b) (d:=⟨op,0,0,⟨#[]⟩,⟨#[]⟩⟩) hcl hgl (by omega) (Nat.zero_le _) (Nat.zero_le _) (fun e he => (hI.is e he).imp fun b hb _ => hb.1)
   obtain ⟨a',ha',hg'⟩:=hI.gen
   have hc8:∀ o,wr.cell? ⟨w.heap.size + 1,o,none⟩=(#[.int .i64 op,.int .i64 0,.int .i64 0,.string ⟨#[]⟩,.string ⟨#[]⟩,.slice (some ⟨g,0,none⟩) es.length cap]:Array Value)[o]?:=fun o => by simp [World.cell?,hI.box]
   have hc7:∀ o,wr.cell? ⟨w.heap.size,o,none⟩=(#[.int .i64 0,.int .i64 0,.int .i64 0,.string ⟨#[]⟩,.string ⟨#[]⟩,.slice none 0 0]:Array Value)[o]?:=fun o => by simp [World.cell?,hI.res]
   have hf7:∀ o,wr.frozen? ⟨w.heap.size,o,none⟩=false:=fun o => by simp [World.frozen?,hI.res]
   have hL:(es.map El.x,a')=listV (exprV rs (nts fs) k) ks a:=by rw [ha'.1,hjl,List.take_length]
   have HL:=Lib.hid hL
   have HA:=Lib.hid (show a'<=a + ks.length * cost k by have:=ha'.2; rw [hjl] at this; exact this)
   clear ha'
   have HGR:=Lib.hid hI.gr
   have HGN:=Lib.hid hg'
   have HRow:=Lib.hid hrow
   clear hI hL hg' hrow hcl hjl hel
   go_wp2_with fail
   refine bodyPost_ret (v:=.agg #[.int .i64 op,.int .i64 0,.int .i64 0,.string ⟨#[]⟩,.string ⟨#[]⟩,.slice (some ⟨g,0,none⟩) es.length cap]) (by simp [results,Tryz.results32,go_sem,hc7]) rfl ?_
   refine ⟨_,⟨op,0,0,⟨#[]⟩,⟨#[]⟩⟩,some ⟨g,0,none⟩,es.length,cap,a',rfl,⟨_,rfl,HL.out⟩,IsP.keep (fun b hb hl => set6_heap (by omega) _ _ _ _ _ _) (fun b hb hl => by omega) _ _ _ _ HRow.out,HA.out,?_,?_⟩
   ·have:=HGN.out
    repeat' (first | (with_reducible exact this) | (with_reducible refine Gen.far ?_ ?_ _) | (dsimp only; omega))
   ·have:=HGR.out
    repeat' (first | (with_reducible exact this) | (with_reducible refine Gr.set ?_ ?_) | (dsimp only; omega))
theorem constN_leafD (fs:List GenL.Fd) (kind:Int) (r:Rw):LeafD fs kind (constN kind r):=by
 refine .inl ⟨rfl,rfl,rfl,?_,?_⟩
 ·have hk:=v_known kind r.k r.x r.t
  unfold constN
  by_cases e:kind=1
  ·subst e
   obtain ⟨n,hn⟩:∃ n,vN 1 r.k r.x=n:=⟨_,rfl⟩
   rw [hn] at hk
   have hok:okN n=true:=by
    rw [show vK 1=1 from rfl] at hk
    unfold knownB valE numE at hk
    rw [if_pos rfl] at hk
    cases hb:okN n
    ·rw [hb] at hk; simp [isT] at hk
    ·rfl
   obtain ⟨b1,b2⟩:=okN_iff.1 hok
   simp only [hn,if_true]
   show knownB 1 _ []=true
   split
   ·exact known_int (okN_iff.2 ⟨by omega,by omega⟩)
   ·exact known_int hok
  ·simp only [if_neg e]; exact hk
 ·intro h
  have e:kind=1:=by
   by_cases e:kind=1
   ·exact e
   ·have:vK kind ≠ 1:=by unfold vK; rw [if_neg e]; split <;> decide
    exact absurd h this
  unfold constN
  rw [if_pos e]
  dsimp only
  split <;> omega
theorem leafV_leafD {rs:List Rw} {fs:List GenL.Fd} {kind:Int} {a:Nat}:LeafD fs kind (leafV rs (nts fs) kind a).1:=by
 unfold leafV
 dsimp only
 by_cases h:(namesOf (nts fs) kind).length=0 ∨ pick (nextV rs a).k 4=0
 ·rw [if_pos h]; exact constN_leafD _ _ _
 ·rw [if_neg h]
  obtain ⟨h0,h1⟩:=pick_bd (nextV rs a).y ((namesOf (nts fs) kind).length:Int) (by omega)
  refine .inr ⟨rfl,rfl,rfl,rfl,?_⟩
  have hj:(pick (nextV rs a).y ((namesOf (nts fs) kind).length:Int)).toNat < (namesOf (nts fs) kind).length:=by omega
  obtain ⟨f,hf,h2,h3⟩:=mem_namesOf (List.getElem_mem hj)
  exact ⟨f,hf,by rw [h2]; exact (getD_lt hj _).symm,h3⟩
theorem leafV_sizes {rs:List Rw} {fs:List GenL.Fd} {kind:Int} {a:Nat} (hfs:∀ f ∈ fs,f.nm.size<=maxLen):(leafV rs (nts fs) kind a).1.s.size<=maxLen/\(leafV rs (nts fs) kind a).1.nm.size<=maxLen:=leaf_sizes hfs leafV_leafD
theorem opks_opT (kind:Int) (r:Rw):OpT (opks kind r).1 (opks kind r).2 kind:=by
 obtain ⟨a0,a1⟩:=pick_bd r.y 7 (by decide)
 obtain ⟨b0,b1⟩:=pick_bd r.x 3 (by decide)
 unfold opks
 generalize pick r.x 6=p2
 generalize pick r.y 7=p3 at a0 a1
 generalize pick r.x 3=p4 at b0 b1
 unfold opP
 by_cases h2:p2=0
 ·rw [if_pos h2]; exact .inl ⟨rfl,rfl⟩
 ·rw [if_neg h2]
  by_cases h3:kind=1
  ·rw [if_pos h3]
   refine .inr (.inl ⟨h3,?_⟩)
   by_cases h5:p3=0
   ·rw [if_pos h5]; exact .inl ⟨rfl,rfl⟩
   ·rw [if_neg h5]
    by_cases h6:p3=1
    ·rw [if_pos h6]; exact .inr (.inl ⟨rfl,rfl⟩)
    ·rw [if_neg h6]; exact .inr (.inr ⟨by show (5:Int)<=p3 - 2 + 5; omega,by show p3 - 2 + 5<=(9:Int); omega,rfl⟩)
  ·rw [if_neg h3]
   by_cases h4:kind=2
   ·rw [if_pos h4]
    refine .inr (.inr (.inl ⟨h4,?_⟩))
    by_cases h5:p3=0
    ·rw [if_pos h5]; exact .inl ⟨rfl,rfl⟩
    ·rw [if_neg h5]
     by_cases h6:p3 < 3
     ·rw [if_pos h6]; exact .inr (.inl ⟨by show (15:Int)<=15 + p3 - 1; omega,by show 15 + p3 - 1<=(16:Int); omega,rfl⟩)
     ·rw [if_neg h6]; exact .inr (.inr ⟨1 + p4,by omega,by omega,by show (11:Int)<=11 + p3 - 3; omega,by show 11 + p3 - 3<=(14:Int); omega,rfl⟩)
   ·rw [if_neg h4]; exact .inr (.inr (.inr ⟨h3,h4,rfl,rfl⟩))
theorem listV_at (E:Int->Nat->Ex × Nat) (R:Int->Ex->Prop) (hE:∀ k a,R k (E k a).1):∀ (ks:List Int) (a:Nat) (i:Nat) (h1:i < (listV E ks a).1.length) (h2:i < ks.length),R ks[i] (listV E ks a).1[i]
 | [],a,i,h1,h2 => absurd h2 (by simp)
 | k :: ks,a,0,h1,h2 => hE k a
 | k :: ks,a,i + 1,h1,h2 => by
  exact listV_at E R hE ks (E k a).2 i (by simpa [listV] using h1) (by simpa using h2)
theorem exprV_gn {rs:List Rw} {fs:List GenL.Fd}:∀ (k:Nat) (kind:Int) (a:Nat),Gn fs k kind (exprV rs (nts fs) k kind a).1:=by
 intro k
 induction k with
 | zero => intro kind a; exact ⟨_,rfl,leafV_leafD⟩
 | succ k ih =>
  intro kind a
  by_cases h:pick (nextV rs a).k 3=0
  ·rw [exprV_leaf (.inr h)]; exact .inl ⟨_,rfl,leafV_leafD⟩
  ·have e:=exprV_op (rs:=rs) (fs:=nts fs) (k:=k) (kind:=kind) (a:=a) h (by rfl) (Prod.eta _)
   rw [← e]
   refine .inr ⟨_,_,_,rfl,opks_opT kind (nextV rs a),listV_len _ _ _,fun i h1 h2 => ?_⟩
   exact listV_at _ (fun k x => Gn fs _ k x) (fun k a => ih k a) _ _ i h1 h2
theorem fin_madeV {R:Ex->Nat->Prop} {G n c a a' m cp r:Nat} {A B:Option Addr} {w V w7:World} {x:Ex} {d:Nd} (hGw:G < w.heap.size) (h1:Gr G w V) (h7:Gr G V w7) (hR:R x a') (hi:IsP (fun b => V.heap.size<=b) w7 x d B m) (ha:a'<=a) (hg:Gen w7 G A n c a') (hr1:w.heap.size<=r) (hr2:r < V.heap.size) :
  MadeV G A n c a R w (.returned (.agg #[.int .i64 d.op,.int .i64 d.k,.int .i64 d.n,.string d.s,.string d.nm,.slice B m cp])) ((((((w7.setCell ⟨r,0,none⟩ (.int .i64 d.op)).setCell ⟨r,1,none⟩ (.int .i64 d.k)).setCell ⟨r,2,none⟩ (.int .i64 d.n)).setCell ⟨r,3,none⟩ (.string d.s)).setCell ⟨r,4,none⟩ (.string d.nm)).setCell ⟨r,5,none⟩ (.slice B m cp)):=by
 refine ⟨x,d,B,m,cp,a',rfl,hR,IsP.keep (fun b hb hl => set6_heap (by omega) _ _ _ _ _ _) (fun b hb hl => Nat.le_trans h1.size hb) _ _ _ _ hi,ha,?_,?_⟩
 ·repeat' (first | (with_reducible exact hg) | (with_reducible refine Gen.far ?_ ?_ _) | (dsimp only; omega))
 ·have:=h1.trans h7
  repeat' (first | (with_reducible exact this) | (with_reducible refine Gr.set ?_ ?_) | (dsimp only; omega))
set_option maxHeartbeats 8000000 in
set_option maxRecDepth 100000 in
theorem exprV_any (k:Nat) (deep:Nat) (hdeep:deep=0 ∨ (deep=k + 1/\ExprAt k)) (G c a fc:Nat) (A FA:Option Addr) (rs:List Rw) (fs:List GenL.Fd) (kind:Int) (w:World) (hg:Gen w G A rs.length c a) (hr:RawsV w A rs c) (hf:Flds w FA fs) (hfn:fs.length<=1000000) (hfs:∀ f ∈ fs,f.nm.size<=maxLen) (ha:a + cost deep<=1000000000) (hd1:deep<=1000000) :
  Calls Tryz.prog 17 #[.pointer (some ⟨G,0,none⟩),.int .i64 kind,.slice FA fs.length fc,.int .i64 (deep:Int)] w (MadeV G A rs.length c (a + cost deep) (fun x a' => (x,a')=exprV rs (nts fs) deep kind a) w):=by
 have hc2:=cost_pos deep
 have gl:=hg.lt
 obtain ⟨dp,hdp⟩:∃ dp:Int,(deep:Int)=dp:=⟨_,rfl⟩
 rw [hdp]
 have hgr0:∀ o1 o2 o3 o4,Gr G w ((((w.alloc o1).alloc o2).alloc o3).alloc o4):=fun o1 o2 o3 o4 => Gr.of_below (b_more (b_more (b_more (b_new _ _) _) _) _)
 have hn:∀ o1 o2 o3 o4,Calls Tryz.prog 15 #[.pointer (some ⟨G,0,none⟩)] ((((w.alloc o1).alloc o2).alloc o3).alloc o4) (NextV G A rs c a ((((w.alloc o1).alloc o2).alloc o3).alloc o4)):=fun o1 o2 o3 o4 =>
  nextV_any G c a A rs _ ((((hg.alloc o1).alloc o2).alloc o3).alloc o4) (Gr.rawsV (hgr0 o1 o2 o3 o4) hg hr) (by omega)
 have ha1:nextA rs a<=a + 1:=by unfold nextA; split <;> omega
 have hEV:(deep=0 ∨ pick (nextV rs a).k 3=0->∀ d,d=(leafV rs (nts fs) kind (nextA rs a)).1->(Ex.mk d [],(leafV rs (nts fs) kind (nextA rs a)).2)=exprV rs (nts fs) deep kind a) ∧
   (∀ k,deep=k + 1->pick (nextV rs a).k 3 ≠ 0->∀ op ks l a2,opks kind (nextV rs a)=(op,ks)->(l,a2)=listV (exprV rs (nts fs) k) ks (nextA rs a)->(Ex.mk ⟨op,0,0,⟨#[]⟩,⟨#[]⟩⟩ l,a2)=exprV rs (nts fs) deep kind a) :=
  ⟨fun h d hd => by rw [exprV_leaf h,hd],fun k hk h op ks l a2 ho hl => by rw [hk]; exact exprV_op h ho hl⟩
 unfold NextV at hn
 unfold opks at hEV
 generalize nextV rs a=R at hn hEV
 obtain ⟨K,X,Y,T⟩:=R
 simp only at hn hEV
 obtain ⟨a',haa⟩:∃ q,nextA rs a=q:=⟨_,rfl⟩
 rw [haa] at hn hEV ha1
 have ha':a'<=a + 1:=ha1
 clear haa ha1
 have hmf:∀ (fn:Fn) (first cap:Array Value) (w:World),(Instr.makeFunc fn first cap).run Tryz.prog w=.ok (.func fn first cap) w:=fun _ _ _ _ => rfl
 obtain ⟨M,hM⟩:∃ M,MadeV G A rs.length c (a + cost deep) (fun x a' => (x,a')=exprV rs (nts fs) deep kind a) w=M:=⟨_,rfl⟩
 rw [hM]
 have HM:=Lib.hid hM
 have HEV:=Lib.hid hEV
 clear hEV
 have HN:=Lib.hid hn
 have HG:=Lib.hid hg
 have HR:=Lib.hid hr
 have HF:=Lib.hid hf
 have HGr:=Lib.hid hgr0
 have HFS:=Lib.hid hfs
 have HDP:=Lib.hid hdp
 have HD:=Lib.hid hdeep
 clear hn hg hr hf hgr0 hfs hdp hdeep hM
 go_enter Tryz.func17,Tryz.ntmps17
 go_wp2_with fail
 refine (HN.out _ _ _ _).mono ?_; rintro e w1 ⟨rfl,⟨k0,k1,k2,k3⟩,hg2,hgr2⟩
 simp only at k0 k1 k2 k3
 obtain ⟨W2,hW2⟩:∃ W2,w1.alloc (.cells #[.int .i64 K,.int .i64 X,.int .i64 Y,.string T] 56)=W2:=⟨_,rfl⟩
 have hgw:Gr G w W2:=by rw [← hW2]; exact ((HGr.out _ _ _ _).trans hgr2).trans (Gr.of_below (b_new _ _))
 have hg3:Gen W2 G A rs.length c a':=by rw [← hW2]; exact hg2.alloc _
 have hsz2:w.heap.size + 4<=w1.heap.size:=by have:=hgr2.size; simp at this; omega
 have hsz3:W2.heap.size=w1.heap.size + 1:=by rw [← hW2]; simp
 have keep:∀ b,w.heap.size<=b->b < w.heap.size + 4->W2.heap[b]?=((((w.alloc (.cells #[.pointer (some ⟨G,0,none⟩)] 52)).alloc (.cells #[.slice FA fs.length fc] 26)).alloc (.cells #[.int .i64 dp] 3)).alloc (.cells #[.int .i64 0,.int .i64 0,.int .i64 0,.string ⟨#[]⟩,.string ⟨#[]⟩,.slice none 0 0] 45)).heap[b]?:=fun b h1 h2 => by
  rw [← hW2,(b_new w1 _).block b (by omega)]
  exact hgr2.block b (by simp; omega) (fun e => by injection e; omega)
 have q0:Boxed W2 w.heap.size 52 (.pointer (some ⟨G,0,none⟩)):=(keep _ (by omega) (by omega)).trans (((Boxed.new w _ _).alloc _).alloc _ |>.alloc _)
 have q1:Boxed W2 (w.heap.size + 1) 26 (.slice FA fs.length fc):=(keep _ (by omega) (by omega)).trans (by
  have:=Boxed.new (w.alloc (.cells #[.pointer (some ⟨G,0,none⟩)] 52)) 26 (.slice FA fs.length fc)
  rw [World.size_alloc] at this; exact (this.alloc _).alloc _)
 have q2:Boxed W2 (w.heap.size + 1 + 1) 3 (.int .i64 dp):=(keep _ (by omega) (by omega)).trans (by
  have:=Boxed.new ((w.alloc (.cells #[.pointer (some ⟨G,0,none⟩)] 52)).alloc (.cells #[.slice FA fs.length fc] 26)) 3 (.int .i64 dp)
  simp only [World.size_alloc] at this; exact this.alloc _)
 have q3:W2.heap[w.heap.size + 1 + 1 + 1]?=some (.cells #[.int .i64 0,.int .i64 0,.int .i64 0,.string ⟨#[]⟩,.string ⟨#[]⟩,.slice none 0 0] 45 (0,0)):=(keep _ (by omega) (by omega)).trans (by
  have:=World.alloc_heap_new (((w.alloc (.cells #[.pointer (some ⟨G,0,none⟩)] 52)).alloc (.cells #[.slice FA fs.length fc] 26)).alloc (.cells #[.int .i64 dp] 3)) (.cells #[.int .i64 0,.int .i64 0,.int .i64 0,.string ⟨#[]⟩,.string ⟨#[]⟩,.slice none 0 0] 45)
  simp only [World.size_alloc] at this; exact this)
 have q4:W2.heap[w1.heap.size]?=some (.cells #[.int .i64 K,.int .i64 X,.int .i64 Y,.string T] 56 (0,0)):=by rw [← hW2]; exact World.alloc_heap_new w1 _
 have e1:∀ b,b < w1.heap.size->w1.heap[b]?=W2.heap[b]?:=fun b hb => by rw [← hW2]; exact ((b_new w1 _).block b hb).symm
 have c0:w1.cell? ⟨w.heap.size,0,none⟩=some (.pointer (some ⟨G,0,none⟩)):=Boxed.cell ((e1 _ (by omega)).trans q0)
 have c1:w1.cell? ⟨w.heap.size + 1,0,none⟩=some (.slice FA fs.length fc):=Boxed.cell ((e1 _ (by omega)).trans q1)
 have c2:w1.cell? ⟨w.heap.size + 1 + 1,0,none⟩=some (.int .i64 dp):=Boxed.cell ((e1 _ (by omega)).trans q2)
 have z1:w.heap.size + 1 + 1 + 1 < w1.heap.size:=by omega
 have z0:w.heap.size + 1 + 1 < w1.heap.size:=by omega
 have z2:w.heap.size + 1 < w1.heap.size:=by omega
 have z3:w.heap.size < w1.heap.size:=by omega
 clear e1
 have hrw:RawsV W2 A rs c:=Gr.rawsV hgw HG.out HR.out
 have hfw:Flds W2 FA fs:=Gr.flds hgw HG.out HF.out
 obtain ⟨p1,hp1⟩:∃ p,pick K 3=p:=⟨_,rfl⟩
 obtain ⟨p2,hp2⟩:∃ p,pick X 6=p:=⟨_,rfl⟩
 obtain ⟨p3,hp3⟩:∃ p,pick Y 7=p:=⟨_,rfl⟩
 obtain ⟨p4,hp4⟩:∃ p,pick X 3=p:=⟨_,rfl⟩
 have b3:=pick_bd Y 7 (by decide)
 have b4:=pick_bd X 3 (by decide)
 rw [hp3] at b3
 rw [hp4] at b4
 obtain ⟨b30,b31⟩:=b3
 obtain ⟨b40,b41⟩:=b4
 have hP1:=fun W => picked_any K 3 W k0 (by decide) (by decide)
 have hP2:=fun W => picked_any X 6 W k1 (by decide) (by decide)
 have hP3:=fun W => picked_any Y 7 W k2 (by decide) (by decide)
 have hP4:=fun W => picked_any X 3 W k1 (by decide) (by decide)
 rw [hp1] at hP1
 rw [hp2] at hP2
 rw [hp3] at hP3
 rw [hp4] at hP4
 have hev:=HEV.out
 rw [hp1,hp2,hp3,hp4] at hev
 have HEv:=Lib.hid hev
 clear hev
 have HP1:=Lib.hid hP1
 have HP2:=Lib.hid hP2
 have HP3:=Lib.hid hP3
 have HP4:=Lib.hid hP4
 have HW2:=Lib.hid hW2
 have HS3:=Lib.hid hsz3
 have HGW:=Lib.hid hgw
 have HG3:=Lib.hid hg3
 have HRW:=Lib.hid hrw
 have HFW:=Lib.hid hfw
 have Q0:=Lib.hid q0
 have Q1:=Lib.hid q1
 have Q2:=Lib.hid q2
 have Q3:=Lib.hid q3
 have hsz4:w.heap.size + 5<=W2.heap.size:=by omega
 clear hP1 hP2 hP3 hP4 hp1 hp2 hp3 hp4 hgw hg3 hrw hfw q0 q1 q2 q3 q4 keep hg2 hgr2 hW2 hsz3
 -- what lies in the result's cell,wherever
 have hres:∀ V,Gr G W2 V->(∀ o,V.cell? ⟨w.heap.size + 1 + 1 + 1,o,none⟩=(#[.int .i64 0,.int .i64 0,.int .i64 0,.string ⟨#[]⟩,.string ⟨#[]⟩,.slice none 0 0]:Array Value)[o]?)/\∀ o,V.frozen? ⟨w.heap.size + 1 + 1 + 1,o,none⟩=false:=fun V hV => by
  have h3:V.heap[w.heap.size + 1 + 1 + 1]?=_:=(hV.block _ (by omega) (fun e => by injection e; omega)).trans Q3.out
  exact ⟨fun o => by simp [World.cell?,h3],fun o => by simp [World.frozen?,h3]⟩
 have HRes:=Lib.hid hres
 clear hres
 by_cases hleaf:deep=0 ∨ p1=0
 ·have hlv:=HEv.out.1 hleaf _ rfl
  have hLN:(leafV rs (nts fs) kind a').2<=a' + 1:=by unfold leafV nextA; dsimp only; split <;> omega
  have hc:=leafV_any G c a' fc A FA rs fs kind W2 HG3.out HRW.out HFW.out hfn (by omega)
  have hLD:(leafV rs (nts fs) kind a').1.s.size<=maxLen/\(leafV rs (nts fs) kind a').1.nm.size<=maxLen:=leafV_sizes HFS.out
  generalize leafV rs (nts fs) kind a'=LV at hc hlv hLN hLD
  obtain ⟨d,a2⟩:=LV
  simp only at hc hlv hLN hLD
  have HC:=Lib.hid hc
  have HLV:=Lib.hid hlv
  have HLD:=Lib.hid hLD
  clear hc hlv hLD
  obtain ⟨b,hb⟩:∃ b:Bool,decide (dp<=0)=b:=⟨_,rfl⟩
  have hb2:b=true ∨ (b=false/\p1=0):=by
   rcases hleaf with h | h
   ·left; rw [← hb]; have:=HDP.out; simp; omega
   ·cases b
    ·exact .inr ⟨rfl,h⟩
    ·exact .inl rfl
  clear hleaf
  rcases hb2 with rfl | ⟨rfl,rfl⟩
  all_goals
   go_wp2_with (go_at_call 7; (with_reducible refine (HP1.out _).mono ?_); rintro e w9 ⟨rfl,rfl⟩)
   rw [HW2.out]
   refine HC.out.mono ?_; rintro e w7 ⟨rfl,hg7,hgr7⟩
   obtain ⟨hc7,hf7⟩:=HRes.out w7 hgr7
   have HX:=Lib.hid (And.intro hg7 hgr7)
   clear hg7 hgr7
   go_wp2_with fail
   refine bodyPost_ret (v:=.agg #[.int .i64 d.op,.int .i64 d.k,.int .i64 d.n,.string d.s,.string d.nm,.slice none 0 0]) (by simp [results,Tryz.results17,go_sem,hc7]) rfl ?_
   rw [← HM.out]
   exact fin_madeV gl HGW.out HX.out.2 HLV.out (isP_leaf _ _ _ _ HLD.out.1 HLD.out.2) (by omega) HX.out.1 (by omega) (by omega)
 ·have t0:decide (dp<=0)=false:=decide_eq_false (by have:=HDP.out; omega)
  have t1:(p1 == 0)=false:=beq_eq_false_iff_ne.2 (fun h => hleaf (.inr h))
  have hdk:deep=k + 1/\ExprAt k:=by
   rcases HD.out with h | h
   ·exact absurd (.inl h) hleaf
   ·exact h
  have hdpk:dp=(k:Int) + 1:=by have:=HDP.out; have:=hdk.1; omega
  have hcost:a' + 3 * cost k<=a + cost deep:=by rw [hdk.1]; show a' + 3 * cost k<=a + (2 + 3 * cost k); omega
  have hwith:∀ (V:World) (op:Int) (ks:List Int) (kb kc n_:Nat),ks.length=n_->Below W2.heap.size W2 V->V.heap[kb]?=some (.cells (ks.map (Value.int .i64)).toArray 3 (0,0))->0 < n_->n_<=3 →
    Calls Tryz.prog 32 #[.int .i64 op,.slice (some ⟨kb,0,none⟩) n_ kc,.pointer (some ⟨w.heap.size,0,none⟩),.pointer (some ⟨w.heap.size + 1,0,none⟩),.pointer (some ⟨w.heap.size + 1 + 1,0,none⟩)] V
     (MadeV G A rs.length c (a' + n_ * cost k) (fun x a2 => ∃ l,x=.mk ⟨op,0,0,⟨#[]⟩,⟨#[]⟩⟩ l/\(l,a2)=listV (exprV rs (nts fs) k) ks a') V):=fun V op ks kb kc n_ hn hV hkb h0 h3 => by
   subst hn
   have h4:ks.length * cost k<=3 * cost k:=Nat.mul_le_mul_right _ h3
   exact with_any k hdk.2 G c a' fc w.heap.size (w.heap.size + 1) (w.heap.size + 1 + 1) kb kc A FA rs fs op ks V (HG3.out.below hV) (Gr.rawsV (Gr.of_below hV) HG3.out HRW.out) (HFW.out.below hV) hfn HFS.out (by omega) ((hV.block _ (by omega)).trans Q0.out) ((hV.block _ (by omega)).trans Q1.out) dp hdpk ((hV.block _ (by omega)).trans Q2.out) hkb h0 h3 (by omega)
  have HWith:=Lib.hid hwith
  have hop:∀ op ks x a2,opP p2 p3 p4 kind=(op,ks)->(∃ l,x=Ex.mk ⟨op,0,0,⟨#[]⟩,⟨#[]⟩⟩ l/\(l,a2)=listV (exprV rs (nts fs) k) ks a')->(x,a2)=exprV rs (nts fs) (k + 1) kind a:=fun op ks x a2 ho hx => by
   obtain ⟨l,rfl,hl⟩:=hx
   rw [← hdk.1]
   exact HEv.out.2 k hdk.1 (fun h => hleaf (.inr h)) op ks l a2 ho hl
  have HOP:=Lib.hid hop
  clear hop
  have HDK:=Lib.hid hdk.1
  have HC3:=Lib.hid hcost
  clear hdk hdpk hcost hwith hleaf
  by_cases h2:p2=0
  ·have H2:=Lib.hid h2
   have t2:(p2 == 0)=true:=beq_iff_eq.2 h2
   clear h2
   have HK:=Lib.hid (fun x a2 => HOP.out (17) [2,kind,kind] x a2 (by unfold opP; rw [if_pos H2.out]))
   have hc:=HWith.out (W2.alloc (.cells #[.int .i64 2,.int .i64 kind,.int .i64 kind] 3)) (17) [2,kind,kind] (w1.heap.size + 1) 3 3 rfl (b_new _ _) (by rw [← HS3.out]; exact (World.alloc_heap_new W2 _)) (by decide) (by decide)
   have HC:=Lib.hid hc
   have hgv:Gr G W2 (W2.alloc (.cells #[.int .i64 2,.int .i64 kind,.int .i64 kind] 3)):=Gr.of_below (b_new _ _)
   have HGV:=Lib.hid hgv
   clear hc hgv
   go_wp2_with (first | (go_at_call 7; (with_reducible refine (HP1.out _).mono ?_); rintro e w9 ⟨rfl,rfl⟩) | (go_at_call 7; (with_reducible refine (HP2.out _).mono ?_); rintro e w9 ⟨rfl,rfl⟩) | (go_at_call 7; (with_reducible refine (HP3.out _).mono ?_); rintro e w9 ⟨rfl,rfl⟩) | (go_at_call 7; (with_reducible refine (HP4.out _).mono ?_); rintro e w9 ⟨rfl,rfl⟩))
   rw [HW2.out]
   (with_reducible refine HC.out.mono ?_); rintro e w7 ⟨x,d,B,m,cp,a2,rfl,hx,hisx,ha2,hg7,hgr7⟩
   obtain ⟨hc7,hf7⟩:=HRes.out w7 (HGV.out.trans hgr7)
   have HX:=Lib.hid (And.intro hx (And.intro hisx (And.intro ha2 (And.intro hg7 hgr7))))
   clear hx hisx ha2 hg7 hgr7
   go_wp2_with fail
   refine bodyPost_ret (v:=.agg #[.int .i64 d.op,.int .i64 d.k,.int .i64 d.n,.string d.s,.string d.nm,.slice B m cp]) (by simp [results,Tryz.results17,go_sem,hc7]) rfl ?_
   rw [← HM.out,HDK.out]
   have hle:=HC3.out
   rw [HDK.out] at hle
   have hx2:a2<=a' + 3 * cost k:=HX.out.2.2.1
   exact fin_madeV gl (HGW.out.trans HGV.out) HX.out.2.2.2.2 (HK.out _ _ HX.out.1) HX.out.2.1 (by omega) HX.out.2.2.2.1 (by omega) (by simp; omega)
  ·have H2:=Lib.hid h2
   have t2:(p2 == 0)=false:=beq_eq_false_iff_ne.2 h2
   clear h2
   by_cases h3:kind=1
   ·subst h3
    by_cases h5:p3=0
    ·have H5:=Lib.hid h5
     have t3:(p3 == 0)=true:=beq_iff_eq.2 h5
     clear h5
     have HK:=Lib.hid (fun x a2 => HOP.out (3) [1] x a2 (by unfold opP; rw [if_neg H2.out,if_pos rfl,if_pos H5.out]))
     have hc:=HWith.out (W2.alloc (.cells #[.int .i64 1] 3)) (3) [1] (w1.heap.size + 1) 1 1 rfl (b_new _ _) (by rw [← HS3.out]; exact (World.alloc_heap_new W2 _)) (by decide) (by decide)
     have HC:=Lib.hid hc
     have hgv:Gr G W2 (W2.alloc (.cells #[.int .i64 1] 3)):=Gr.of_below (b_new _ _)
     have HGV:=Lib.hid hgv
     clear hc hgv
     go_wp2_with (first | (go_at_call 7; (with_reducible refine (HP1.out _).mono ?_); rintro e w9 ⟨rfl,rfl⟩) | (go_at_call 7; (with_reducible refine (HP2.out _).mono ?_); rintro e w9 ⟨rfl,rfl⟩) | (go_at_call 7; (with_reducible refine (HP3.out _).mono ?_); rintro e w9 ⟨rfl,rfl⟩) | (go_at_call 7; (with_reducible refine (HP4.out _).mono ?_); rintro e w9 ⟨rfl,rfl⟩))
     rw [HW2.out]
     (with_reducible refine HC.out.mono ?_); rintro e w7 ⟨x,d,B,m,cp,a2,rfl,hx,hisx,ha2,hg7,hgr7⟩
     obtain ⟨hc7,hf7⟩:=HRes.out w7 (HGV.out.trans hgr7)
     have HX:=Lib.hid (And.intro hx (And.intro hisx (And.intro ha2 (And.intro hg7 hgr7))))
     clear hx hisx ha2 hg7 hgr7
     go_wp2_with fail
     refine bodyPost_ret (v:=.agg #[.int .i64 d.op,.int .i64 d.k,.int .i64 d.n,.string d.s,.string d.nm,.slice B m cp]) (by simp [results,Tryz.results17,go_sem,hc7]) rfl ?_
     rw [← HM.out,HDK.out]
     have hle:=HC3.out
     rw [HDK.out] at hle
     have hx2:a2<=a' + 1 * cost k:=HX.out.2.2.1
     exact fin_madeV gl (HGW.out.trans HGV.out) HX.out.2.2.2.2 (HK.out _ _ HX.out.1) HX.out.2.1 (by omega) HX.out.2.2.2.1 (by omega) (by simp; omega)
    ·have H5:=Lib.hid h5
     have t3:(p3 == 0)=false:=beq_eq_false_iff_ne.2 h5
     by_cases h6:p3=1
     ·have H6:=Lib.hid h6
      have t4:(p3 == 1)=true:=beq_iff_eq.2 h6
      clear h5 h6
      have HK:=Lib.hid (fun x a2 => HOP.out (18) [3] x a2 (by unfold opP; rw [if_neg H2.out,if_pos rfl,if_neg H5.out,if_pos H6.out]))
      have hc:=HWith.out (W2.alloc (.cells #[.int .i64 3] 3)) (18) [3] (w1.heap.size + 1) 1 1 rfl (b_new _ _) (by rw [← HS3.out]; exact (World.alloc_heap_new W2 _)) (by decide) (by decide)
      have HC:=Lib.hid hc
      have hgv:Gr G W2 (W2.alloc (.cells #[.int .i64 3] 3)):=Gr.of_below (b_new _ _)
      have HGV:=Lib.hid hgv
      clear hc hgv
      go_wp2_with (first | (go_at_call 7; (with_reducible refine (HP1.out _).mono ?_); rintro e w9 ⟨rfl,rfl⟩) | (go_at_call 7; (with_reducible refine (HP2.out _).mono ?_); rintro e w9 ⟨rfl,rfl⟩) | (go_at_call 7; (with_reducible refine (HP3.out _).mono ?_); rintro e w9 ⟨rfl,rfl⟩) | (go_at_call 7; (with_reducible refine (HP4.out _).mono ?_); rintro e w9 ⟨rfl,rfl⟩))
      rw [HW2.out]
      (with_reducible refine HC.out.mono ?_); rintro e w7 ⟨x,d,B,m,cp,a2,rfl,hx,hisx,ha2,hg7,hgr7⟩
      obtain ⟨hc7,hf7⟩:=HRes.out w7 (HGV.out.trans hgr7)
      have HX:=Lib.hid (And.intro hx (And.intro hisx (And.intro ha2 (And.intro hg7 hgr7))))
      clear hx hisx ha2 hg7 hgr7
      go_wp2_with fail
      refine bodyPost_ret (v:=.agg #[.int .i64 d.op,.int .i64 d.k,.int .i64 d.n,.string d.s,.string d.nm,.slice B m cp]) (by simp [results,Tryz.results17,go_sem,hc7]) rfl ?_
      rw [← HM.out,HDK.out]
      have hle:=HC3.out
      rw [HDK.out] at hle
      have hx2:a2<=a' + 1 * cost k:=HX.out.2.2.1
      exact fin_madeV gl (HGW.out.trans HGV.out) HX.out.2.2.2.2 (HK.out _ _ HX.out.1) HX.out.2.1 (by omega) HX.out.2.2.2.1 (by omega) (by simp; omega)
     ·have H6:=Lib.hid h6
      have t4:(p3 == 1)=false:=beq_eq_false_iff_ne.2 h6
      obtain ⟨qn,hqn⟩:∃ qn:Nat,p3 - 2=qn:=⟨(p3 - 2).toNat,by omega⟩
      have hq5:qn < 5:=by omega
      have u0:0<=p3 - 2:=by omega
      have u1:p3 - 2 < 5:=by omega
      have u2:(p3 - 2).toNat=qn:=by omega
      have u3:=five qn hq5
      have Hqn:=Lib.hid hqn
      clear h5 h6 hqn
      have HK:=Lib.hid (fun x a2 => HOP.out ((qn:Int) + 5) [1,1] x a2 (by unfold opP; rw [if_neg H2.out,if_pos rfl,if_neg H5.out,if_neg H6.out,Hqn.out]))
      have hc:=HWith.out ((W2.alloc (.cells #[.int .i64 5,.int .i64 6,.int .i64 7,.int .i64 8,.int .i64 9] 3)).alloc (.cells #[.int .i64 1,.int .i64 1] 3)) ((qn:Int) + 5) [1,1] (w1.heap.size + 1 + 1) 2 2 rfl (b_more (b_new _ _) _) (by rw [← HS3.out]; exact (by have:=World.alloc_heap_new (W2.alloc (.cells #[.int .i64 5,.int .i64 6,.int .i64 7,.int .i64 8,.int .i64 9] 3)) (.cells #[.int .i64 1,.int .i64 1] 3); rw [World.size_alloc] at this; exact this)) (by decide) (by decide)
      have HC:=Lib.hid hc
      have hgv:Gr G W2 ((W2.alloc (.cells #[.int .i64 5,.int .i64 6,.int .i64 7,.int .i64 8,.int .i64 9] 3)).alloc (.cells #[.int .i64 1,.int .i64 1] 3)):=Gr.of_below (b_more (b_new _ _) _)
      have HGV:=Lib.hid hgv
      clear hc hgv
      go_wp2_with (first | (go_at_call 7; (with_reducible refine (HP1.out _).mono ?_); rintro e w9 ⟨rfl,rfl⟩) | (go_at_call 7; (with_reducible refine (HP2.out _).mono ?_); rintro e w9 ⟨rfl,rfl⟩) | (go_at_call 7; (with_reducible refine (HP3.out _).mono ?_); rintro e w9 ⟨rfl,rfl⟩) | (go_at_call 7; (with_reducible refine (HP4.out _).mono ?_); rintro e w9 ⟨rfl,rfl⟩))
      rw [HW2.out]
      (with_reducible refine HC.out.mono ?_); rintro e w7 ⟨x,d,B,m,cp,a2,rfl,hx,hisx,ha2,hg7,hgr7⟩
      obtain ⟨hc7,hf7⟩:=HRes.out w7 (HGV.out.trans hgr7)
      have HX:=Lib.hid (And.intro hx (And.intro hisx (And.intro ha2 (And.intro hg7 hgr7))))
      clear hx hisx ha2 hg7 hgr7
      go_wp2_with fail
      refine bodyPost_ret (v:=.agg #[.int .i64 d.op,.int .i64 d.k,.int .i64 d.n,.string d.s,.string d.nm,.slice B m cp]) (by simp [results,Tryz.results17,go_sem,hc7]) rfl ?_
      rw [← HM.out,HDK.out]
      have hle:=HC3.out
      rw [HDK.out] at hle
      have hx2:a2<=a' + 2 * cost k:=HX.out.2.2.1
      exact fin_madeV gl (HGW.out.trans HGV.out) HX.out.2.2.2.2 (HK.out _ _ HX.out.1) HX.out.2.1 (by omega) HX.out.2.2.2.1 (by omega) (by simp; omega)
   ·have H3:=Lib.hid h3
    have t5:(kind == 1)=false:=beq_eq_false_iff_ne.2 h3
    by_cases h4:kind=2
    ·subst h4
     by_cases h5:p3=0
     ·have H5:=Lib.hid h5
      have t3:(p3 == 0)=true:=beq_iff_eq.2 h5
      clear h5
      have HK:=Lib.hid (fun x a2 => HOP.out (4) [2] x a2 (by unfold opP; rw [if_neg H2.out,if_neg (by decide),if_pos rfl,if_pos H5.out]))
      have hc:=HWith.out (W2.alloc (.cells #[.int .i64 2] 3)) (4) [2] (w1.heap.size + 1) 1 1 rfl (b_new _ _) (by rw [← HS3.out]; exact (World.alloc_heap_new W2 _)) (by decide) (by decide)
      have HC:=Lib.hid hc
      have hgv:Gr G W2 (W2.alloc (.cells #[.int .i64 2] 3)):=Gr.of_below (b_new _ _)
      have HGV:=Lib.hid hgv
      clear hc hgv
      go_wp2_with (first | (go_at_call 7; (with_reducible refine (HP1.out _).mono ?_); rintro e w9 ⟨rfl,rfl⟩) | (go_at_call 7; (with_reducible refine (HP2.out _).mono ?_); rintro e w9 ⟨rfl,rfl⟩) | (go_at_call 7; (with_reducible refine (HP3.out _).mono ?_); rintro e w9 ⟨rfl,rfl⟩) | (go_at_call 7; (with_reducible refine (HP4.out _).mono ?_); rintro e w9 ⟨rfl,rfl⟩))
      rw [HW2.out]
      (with_reducible refine HC.out.mono ?_); rintro e w7 ⟨x,d,B,m,cp,a2,rfl,hx,hisx,ha2,hg7,hgr7⟩
      obtain ⟨hc7,hf7⟩:=HRes.out w7 (HGV.out.trans hgr7)
      have HX:=Lib.hid (And.intro hx (And.intro hisx (And.intro ha2 (And.intro hg7 hgr7))))
      clear hx hisx ha2 hg7 hgr7
      go_wp2_with fail
      refine bodyPost_ret (v:=.agg #[.int .i64 d.op,.int .i64 d.k,.int .i64 d.n,.string d.s,.string d.nm,.slice B m cp]) (by simp [results,Tryz.results17,go_sem,hc7]) rfl ?_
      rw [← HM.out,HDK.out]
      have hle:=HC3.out
      rw [HDK.out] at hle
      have hx2:a2<=a' + 1 * cost k:=HX.out.2.2.1
      exact fin_madeV gl (HGW.out.trans HGV.out) HX.out.2.2.2.2 (HK.out _ _ HX.out.1) HX.out.2.1 (by omega) HX.out.2.2.2.1 (by omega) (by simp; omega)
     ·have H5:=Lib.hid h5
      have t3:(p3 == 0)=false:=beq_eq_false_iff_ne.2 h5
      by_cases h6:p3 < 3
      ·have H6:=Lib.hid h6
       have hop:p3 + 15 - 1=p3 + 14:=by omega
       have HK:=Lib.hid (fun x a2 => HOP.out (15 + p3 - 1) [2,2] x a2 (by unfold opP; rw [if_neg H2.out,if_neg (by decide),if_pos rfl,if_neg H5.out,if_pos H6.out]))
       have hc:=HWith.out (W2.alloc (.cells #[.int .i64 2,.int .i64 2] 3)) (15 + p3 - 1) [2,2] (w1.heap.size + 1) 2 2 rfl (b_new _ _) (by rw [← HS3.out]; exact (World.alloc_heap_new W2 _)) (by decide) (by decide)
       have HC:=Lib.hid hc
       have hgv:Gr G W2 (W2.alloc (.cells #[.int .i64 2,.int .i64 2] 3)):=Gr.of_below (b_new _ _)
       have HGV:=Lib.hid hgv
       clear hc hgv
       go_wp2_with (first | (go_at_call 7; (with_reducible refine (HP1.out _).mono ?_); rintro e w9 ⟨rfl,rfl⟩) | (go_at_call 7; (with_reducible refine (HP2.out _).mono ?_); rintro e w9 ⟨rfl,rfl⟩) | (go_at_call 7; (with_reducible refine (HP3.out _).mono ?_); rintro e w9 ⟨rfl,rfl⟩) | (go_at_call 7; (with_reducible refine (HP4.out _).mono ?_); rintro e w9 ⟨rfl,rfl⟩))
       rw [HW2.out]
       (with_reducible refine HC.out.mono ?_); rintro e w7 ⟨x,d,B,m,cp,a2,rfl,hx,hisx,ha2,hg7,hgr7⟩
       obtain ⟨hc7,hf7⟩:=HRes.out w7 (HGV.out.trans hgr7)
       have HX:=Lib.hid (And.intro hx (And.intro hisx (And.intro ha2 (And.intro hg7 hgr7))))
       clear hx hisx ha2 hg7 hgr7
       go_wp2_with fail
       refine bodyPost_ret (v:=.agg #[.int .i64 d.op,.int .i64 d.k,.int .i64 d.n,.string d.s,.string d.nm,.slice B m cp]) (by simp [results,Tryz.results17,go_sem,hc7]) rfl ?_
       rw [← HM.out,HDK.out]
       have hle:=HC3.out
       rw [HDK.out] at hle
       have hx2:a2<=a' + 2 * cost k:=HX.out.2.2.1
       exact fin_madeV gl (HGW.out.trans HGV.out) HX.out.2.2.2.2 (HK.out _ _ HX.out.1) HX.out.2.1 (by omega) HX.out.2.2.2.1 (by omega) (by simp; omega)
      ·have H6:=Lib.hid h6
       have t6:¬ p3 < 3:=h6
       have HK:=Lib.hid (fun x a2 => HOP.out (11 + p3 - 3) [1 + p4,1 + p4] x a2 (by unfold opP; rw [if_neg H2.out,if_neg (by decide),if_pos rfl,if_neg H5.out,if_neg H6.out]))
       have hc:=HWith.out (W2.alloc (.cells #[.int .i64 (1 + p4),.int .i64 (1 + p4)] 3)) (11 + p3 - 3) [1 + p4,1 + p4] (w1.heap.size + 1) 2 2 rfl (b_new _ _) (by rw [← HS3.out]; exact (World.alloc_heap_new W2 _)) (by decide) (by decide)
       have HC:=Lib.hid hc
       have hgv:Gr G W2 (W2.alloc (.cells #[.int .i64 (1 + p4),.int .i64 (1 + p4)] 3)):=Gr.of_below (b_new _ _)
       have HGV:=Lib.hid hgv
       clear hc hgv
       go_wp2_with (first | (go_at_call 7; (with_reducible refine (HP1.out _).mono ?_); rintro e w9 ⟨rfl,rfl⟩) | (go_at_call 7; (with_reducible refine (HP2.out _).mono ?_); rintro e w9 ⟨rfl,rfl⟩) | (go_at_call 7; (with_reducible refine (HP3.out _).mono ?_); rintro e w9 ⟨rfl,rfl⟩) | (go_at_call 7; (with_reducible refine (HP4.out _).mono ?_); rintro e w9 ⟨rfl,rfl⟩))
       rw [HW2.out]
       (with_reducible refine HC.out.mono ?_); rintro e w7 ⟨x,d,B,m,cp,a2,rfl,hx,hisx,ha2,hg7,hgr7⟩
       obtain ⟨hc7,hf7⟩:=HRes.out w7 (HGV.out.trans hgr7)
       have HX:=Lib.hid (And.intro hx (And.intro hisx (And.intro ha2 (And.intro hg7 hgr7))))
       clear hx hisx ha2 hg7 hgr7
       go_wp2_with fail
       refine bodyPost_ret (v:=.agg #[.int .i64 d.op,.int .i64 d.k,.int .i64 d.n,.string d.s,.string d.nm,.slice B m cp]) (by simp [results,Tryz.results17,go_sem,hc7]) rfl ?_
       rw [← HM.out,HDK.out]
       have hle:=HC3.out
       rw [HDK.out] at hle
       have hx2:a2<=a' + 2 * cost k:=HX.out.2.2.1
       exact fin_madeV gl (HGW.out.trans HGV.out) HX.out.2.2.2.2 (HK.out _ _ HX.out.1) HX.out.2.1 (by omega) HX.out.2.2.2.1 (by omega) (by simp; omega)
    ·have H4:=Lib.hid h4
     have t6:(kind == 2)=false:=beq_eq_false_iff_ne.2 h4
     have HK:=Lib.hid (fun x a2 => HOP.out (10) [3,3] x a2 (by unfold opP; rw [if_neg H2.out,if_neg H3.out,if_neg H4.out]))
     have hc:=HWith.out (W2.alloc (.cells #[.int .i64 3,.int .i64 3] 3)) (10) [3,3] (w1.heap.size + 1) 2 2 rfl (b_new _ _) (by rw [← HS3.out]; exact (World.alloc_heap_new W2 _)) (by decide) (by decide)
     have HC:=Lib.hid hc
     have hgv:Gr G W2 (W2.alloc (.cells #[.int .i64 3,.int .i64 3] 3)):=Gr.of_below (b_new _ _)
     have HGV:=Lib.hid hgv
     clear hc hgv
     go_wp2_with (first | (go_at_call 7; (with_reducible refine (HP1.out _).mono ?_); rintro e w9 ⟨rfl,rfl⟩) | (go_at_call 7; (with_reducible refine (HP2.out _).mono ?_); rintro e w9 ⟨rfl,rfl⟩) | (go_at_call 7; (with_reducible refine (HP3.out _).mono ?_); rintro e w9 ⟨rfl,rfl⟩) | (go_at_call 7; (with_reducible refine (HP4.out _).mono ?_); rintro e w9 ⟨rfl,rfl⟩))
     rw [HW2.out]
     (with_reducible refine HC.out.mono ?_); rintro e w7 ⟨x,d,B,m,cp,a2,rfl,hx,hisx,ha2,hg7,hgr7⟩
     obtain ⟨hc7,hf7⟩:=HRes.out w7 (HGV.out.trans hgr7)
     have HX:=Lib.hid (And.intro hx (And.intro hisx (And.intro ha2 (And.intro hg7 hgr7))))
     clear hx hisx ha2 hg7 hgr7
     go_wp2_with fail
     refine bodyPost_ret (v:=.agg #[.int .i64 d.op,.int .i64 d.k,.int .i64 d.n,.string d.s,.string d.nm,.slice B m cp]) (by simp [results,Tryz.results17,go_sem,hc7]) rfl ?_
     rw [← HM.out,HDK.out]
     have hle:=HC3.out
     rw [HDK.out] at hle
     have hx2:a2<=a' + 2 * cost k:=HX.out.2.2.1
     exact fin_madeV gl (HGW.out.trans HGV.out) HX.out.2.2.2.2 (HK.out _ _ HX.out.1) HX.out.2.1 (by omega) HX.out.2.2.2.1 (by omega) (by simp; omega)
theorem exprV_all:∀ k,k<=1000000->ExprAt k:=by
 intro k
 induction k with
 | zero => intro _ G c a fc A FA rs fs kind w hg hr hf hfn hfs ha; exact exprV_any 0 0 (.inl rfl) G c a fc A FA rs fs kind w hg hr hf hfn hfs ha (by omega)
 | succ k ih => intro hk G c a fc A FA rs fs kind w hg hr hf hfn hfs ha; exact exprV_any k (k + 1) (.inr ⟨rfl,ih (by omega)⟩) G c a fc A FA rs fs kind w hg hr hf hfn hfs ha (by omega)
end GenV
end Go.Proofs.YtjhhmdmmllblhaaGreatDoor
