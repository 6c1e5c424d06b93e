/- Wh4 ShowMath PrintMath ParsMath PbAll TxMath TxRead NmPut SRow: what these laws name of them. -/
import Derived.Lib.UnsafeStr
import Derived.Lib.ItoaNum
import Derived.Lib.AtoiTie
import Derived.Lib.ItoaMem
import Derived.Lib.ReplaceLaws
import Derived.Lib.CountLaws
import Derived.Lib.IndexMore
import Derived.Lib.Split
import Derived.Lib.Strings
import Derived.Laws.AppendOwnNone
import Derived.Sort.EncStr
import Derived.Test.YtonlkmkfcaadlaaGreatDoorKw11
namespace Go.Proofs.YtonlkmkfcaadlaaGreatDoor
set_option linter.unusedVariables false
namespace ParseM
end ParseM
namespace PsLx
end PsLx
namespace Wh4
open Go.RowKit Go.Maps
open ValM LexM NumM ExM NmM StrM EvM EvP FoM Kit ExL ExP ExN RawV Within RawL GenL TyM Ty EvF EvO EvE FrmM FldP FldC FcM ShF WhM WhQ WhU Wh1 Wh2 Wh3 SMp KMp
set_option linter.unusedVariables false
def ktM (F:List GenL.Fd) (X:Nat->Ex) (L:List Fc) (k:Nat) (s:ByteArray):Option Value:=if metB L k s=true then some (.int .i64 (keyT F X (atF F s))) else none
theorem kt_zero (F:List GenL.Fd) (X:Nat->Ex) (L:List Fc) (s:ByteArray):none=ktM F X L 0 s:=by unfold ktM; rw [metB_zero,if_neg (by decide)]
theorem kt_put {F:List GenL.Fd} {X:Nat->Ex} {L:List Fc} {k:Nat} (h:k < L.length) (t:ByteArray):(if t=L[k].nm then some (.int .i64 (keyT F X (atF F L[k].nm))) else ktM F X L k t)=ktM F X L (k + 1) t:=by
 unfold ktM
 rw [metB_succ L k h]
 by_cases e:t=L[k].nm
 ·rw [if_pos e,if_pos (by simp [e]),e]
 ·rw [if_neg e]
  have:decide (L[k].nm=t)=false:=decide_eq_false fun h => e h.symm
  rw [this,Bool.or_false]
theorem kt_skip {F:List GenL.Fd} {X:Nat->Ex} {L:List Fc} {k:Nat} (h:k < L.length) (hm:metB L k L[k].nm=true) (t:ByteArray):ktM F X L k t=ktM F X L (k + 1) t:=by
 unfold ktM
 rw [metB_succ L k h]
 by_cases e:L[k].nm=t
 ·rw [← e,hm]; rfl
 ·rw [decide_eq_false e,Bool.or_false]
theorem kt_at {F:List GenL.Fd} {X:Nat->Ex} {L:List Fc} {k:Nat} (h:k < L.length):ktM F X L (k + 1) L[k].nm=some (.int .i64 (keyT F X (atF F L[k].nm))):=by
 unfold ktM
 rw [metB_succ L k h,if_pos (by simp)]
theorem look_kt {W:World} {m n:Nat} {M:ByteArray->Option Value} (h:SM W m n M) (s:ByteArray) (hs:s.size<=maxLen) :
  (Instr.lookup 149 (.map (some m)) (.string s) true).run Tryz.prog W=.ok (.tuple #[(M s).getD (.int .i64 0),.bool (M s).isSome]) W:=h.look Tryz.underlying149 (by kernel_rfl) s hs
theorem look_kt1 {W:World} {m n:Nat} {M:ByteArray->Option Value} (h:SM W m n M) (s:ByteArray) (hs:s.size<=maxLen) :
  (Instr.lookup 149 (.map (some m)) (.string s) false).run Tryz.prog W=.ok ((M s).getD (.int .i64 0)) W:=h.look1 Tryz.underlying149 (by kernel_rfl) s hs
theorem put_kt {W:World} {m n:Nat} {M:ByteArray->Option Value} (h:SM W m n M) (s:ByteArray) (hs:s.size<=maxLen) (v:Value) (hn:n < maxLen) :
  ∃ w',(Instr.mapUpdate 149 (.map (some m)) (.string s) v).run Tryz.prog W=.ok () w'/\SM w' m (n + 1) (fun t => if t=s then some v else M t)/\W.grownBy w' (some m):=h.put Tryz.underlying149 s hs v hn
def rqOf (f:Fc):Value:=rqV f.nm f.kk f.kn f.ks
theorem rq_inj {f g:Fc} (h:rqOf f=rqOf g):f.nm=g.nm/\keyV f=keyV g:=by
 unfold rqOf rqV at h
 injection h with h
 have h':=congrArg Array.toList h
 simp only [List.cons.injEq,Value.string.injEq,Value.int.injEq,and_true,true_and] at h'
 obtain ⟨h1,h2,h3,h4⟩:=h'
 refine ⟨h1,?_⟩
 unfold keyV
 rw [h2,h3,h4]
noncomputable def anM (L:List Fc) (k:Nat) (l:Lit):Option Value:=@ite _ (∃ (j:Nat) (h:j < L.length),j < k/\keyOf Tryz.prog 156 (rqOf L[j])=some l) (Classical.propDecidable _) (some (.bool true)) none
theorem an_yes {L:List Fc} {k:Nat} {l:Lit} (h:∃ (j:Nat) (h:j < L.length),j < k/\keyOf Tryz.prog 156 (rqOf L[j])=some l):anM L k l=some (.bool true):=by unfold anM; rw [if_pos h]
theorem an_no {L:List Fc} {k:Nat} {l:Lit} (h:¬ ∃ (j:Nat) (h:j < L.length),j < k/\keyOf Tryz.prog 156 (rqOf L[j])=some l):anM L k l=none:=by unfold anM; rw [if_neg h]
theorem an_zero (L:List Fc) (l:Lit):none=anM L 0 l:=(an_no fun ⟨j,_,h,_⟩ => absurd h (Nat.not_lt_zero _)).symm
theorem an_get {L:List Fc} {k:Nat} (hk:k < L.length) {l:Lit} (hl:keyOf Tryz.prog 156 (rqOf L[k])=some l):(anM L k l).getD (.bool false)=.bool (metO L k L[k]):=by
 cases hm:metO L k L[k] with
 | true =>
  unfold metO at hm
  rw [List.any_eq_true] at hm
  obtain ⟨x,hx,h2⟩:=hm
  rw [Bool.and_eq_true,decide_eq_true_eq,sameV_iff] at h2
  obtain ⟨j,hj,rfl⟩:=List.getElem_of_mem hx
  rw [List.length_take] at hj
  rw [List.getElem_take] at h2
  have e:rqOf L[j]=rqOf L[k]:=by
   unfold rqOf
   rw [h2.1,show L[j].kk=L[k].kk from congrArg Vl.k h2.2,show L[j].kn=L[k].kn from congrArg Vl.n h2.2,show L[j].ks=L[k].ks from congrArg Vl.s h2.2]
  rw [an_yes ⟨j,by omega,by omega,by rw [e]; exact hl⟩]; rfl
 | false =>
  rw [an_no]
  ·rfl
  ·rintro ⟨j,hj,hjk,hj2⟩
   have e:=rqKeyed.inj hj2 hl
   obtain ⟨h1,h2⟩:=rq_inj e
   unfold metO at hm
   rw [List.any_eq_false] at hm
   have:=hm L[j] (by
    rw [List.mem_take_iff_getElem]
    exact ⟨j,by omega,rfl⟩)
   rw [Bool.and_eq_true,decide_eq_true_eq,sameV_iff] at this
   exact this ⟨h1,h2⟩
theorem an_put {L:List Fc} {k:Nat} (hk:k < L.length) {l:Lit} (hl:keyOf Tryz.prog 156 (rqOf L[k])=some l):anM L (k + 1) l=some (.bool true)/\∀ t,t ≠ l->anM L (k + 1) t=anM L k t:=by
 refine ⟨an_yes ⟨k,hk,Nat.lt_succ_self _,hl⟩,fun t ht => ?_⟩
 by_cases h:∃ (j:Nat) (h:j < L.length),j < k/\keyOf Tryz.prog 156 (rqOf L[j])=some t
 ·obtain ⟨j,hj,hjk,e⟩:=h
  rw [an_yes ⟨j,hj,by omega,e⟩,an_yes ⟨j,hj,hjk,e⟩]
 ·rw [an_no h,an_no]
  rintro ⟨j,hj,hjk,e⟩
  rcases Nat.lt_or_ge j k with h1 | h1
  ·exact h ⟨j,hj,h1,e⟩
  ·obtain rfl:j=k:=by omega
   rw [hl] at e
   injection e with e
   exact ht e.symm
theorem look_an {W:World} {m n:Nat} {L:List Fc} {k:Nat} (h:KM 156 W m n (anM L k)) (hk:k < L.length) {l:Lit} (hl:keyOf Tryz.prog 156 (rqOf L[k])=some l) :
  (Instr.lookup 150 (.map (some m)) (rqOf L[k]) false).run Tryz.prog W=.ok (.bool (metO L k L[k])) W:=by
 have:=h.look1 rqKeyed Tryz.underlying150 (z:=.bool false) (by kernel_rfl) hl
 rw [an_get hk hl] at this
 exact this
theorem put_an {W:World} {m n:Nat} {L:List Fc} {k:Nat} (h:KM 156 W m n (anM L k)) (hk:k < L.length) {l:Lit} (hl:keyOf Tryz.prog 156 (rqOf L[k])=some l) (hn:n < maxLen) :
  ∃ w',(Instr.mapUpdate 150 (.map (some m)) (rqOf L[k]) (.bool true)).run Tryz.prog W=.ok () w'/\KM 156 w' m (n + 1) (anM L (k + 1))/\W.grownBy w' (some m):=by
 obtain ⟨w',h1,h2,h3⟩:=h.put rqKeyed Tryz.underlying150 hl (.bool true) hn
 exact ⟨w',h1,h2 _ (an_put hk hl).1 (an_put hk hl).2,h3⟩
theorem kn_keyOf {f:Fc} (h:knV (keyV f)=true) (hn:f.nm.size<=maxLen):∃ l,keyOf Tryz.prog 156 (rqOf f)=some l:=by
 have hk:=kn_kind h
 have hok:(keyV f).ok:=by
  unfold knV knownB at h
  rw [Bool.and_eq_true,decide_eq_true_eq] at h
  exact h.2
 have hb:(-1099511627776<=f.kn/\f.kn<=1099511627776)/\f.ks.size<=40:=by
  rcases ok_cases hok with ⟨_,h2,h3⟩ | ⟨_,h2,h3⟩ | ⟨_,h2,h3,_⟩ | h4
  ·have h3':f.ks=e0:=h3
   have h2':okN f.kn=true:=h2
   unfold okN at h2'
   rw [h3']
   refine ⟨?_,by decide⟩
   simp at h2'
   omega
  ·have h3':f.ks=e0:=h3
   have h2':f.kn=0 ∨ f.kn=1:=h2
   rw [h3']
   exact ⟨by omega,by decide⟩
  ·have h2':f.kn=0:=h2
   exact ⟨by omega,h3⟩
  ·have h5:(keyV f).k=f.kk:=rfl
   exfalso
   rcases h4 with h4 | h4
   all_goals omega
 have hk1:f.kk=1 ∨ f.kk=2 ∨ f.kk=3:=hk
 unfold rqOf
 refine rq_keyOf f.nm f.ks f.kk f.kn hn (by unfold maxLen; omega) ?_ ?_
 ·rcases hk1 with e | e | e <;> rw [e] <;> rfl
 ·have hmin:IntKind.i64.min=-9223372036854775808:=rfl
  have hmax:IntKind.i64.max=9223372036854775807:=rfl
  simp only [Lit.wf,Bool.and_eq_true,decide_eq_true_eq]
  omega
def rqBox (f:Fc):Obj:=.cells #[.string f.nm,.int .i64 f.kk,.int .i64 f.kn,.string f.ks] 156
theorem rq_cells (w:World) (f:Fc) (V:World) (hV:Below (w.alloc (rqBox f)).heap.size (w.alloc (rqBox f)) V):V.cell? ⟨w.heap.size,0,none⟩=some (.string f.nm)/\V.cell? ⟨w.heap.size,1,none⟩=some (.int .i64 f.kk)/\V.cell? ⟨w.heap.size,2,none⟩=some (.int .i64 f.kn)/\V.cell? ⟨w.heap.size,3,none⟩=some (.string f.ks):=by
 have e1:V.heap[w.heap.size]?=_:=(hV.block _ (by simp)).trans (World.alloc_heap_new w (rqBox f))
 unfold rqBox at e1
 exact ⟨by simp [World.cell?,e1],by simp [World.cell?,e1],by simp [World.cell?,e1],by simp [World.cell?,e1]⟩
set_option maxRecDepth 100000 in
set_option maxHeartbeats 16000000 in
theorem oracle_any (F:List GenL.Fd) (X:Nat->Ex) (FA:Option Addr) (fc:Nat) (PA:Option Addr) (pn pc:Nat) (L:List Fc) (A:Option Addr) (c:Nat) (w:World) (hm:F.length<=maxLen) (hf:Flds w FA F) (hX:Forms w F X) (hN:∀ k,k < F.length->(Ex.refs (X k)).length<=1000000000) (hl:Fcs w A L) (hlz:∀ f ∈ L,f.nm.size<=maxLen) (hln:L.length<=maxLen) (hT:Tab w) :
  Calls Tryz.prog 77 #[.agg #[.slice FA F.length fc,.slice PA pn pc],.slice A L.length c] w fun r w' => r=.returned (.int .i64 (orcE F X L))/\Below w.heap.size w w':=by
 have hmm:=@run_makeMap Tryz.prog
 obtain ⟨W1,hW1⟩:∃ V,w.alloc (frBox FA F.length fc PA pn pc)=V:=⟨_,rfl⟩
 obtain ⟨B1,hB1⟩:∃ B,w.heap.size=B:=⟨_,rfl⟩
 have hb1:=b_new w (frBox FA F.length fc PA pn pc)
 have hcell:=fr_cells w FA F.length fc PA pn pc
 rw [hW1] at hb1 hcell
 have hbn:=Wh2.byName_any F FA fc W1 hm (hf.below hb1) (fun k h => (hX k h).1)
 obtain ⟨x0,x1⟩:=hcell W1 (Below.refl _ _)
 rw [hB1] at x0 x1
 obtain ⟨R,hR⟩:∃ R,orcE F X L=R:=⟨_,rfl⟩
 rw [hR]
 have hstop:∀ k,k < L.length->(∀ j,j < k->orc1 F X L j=0)->orc1 F X L k ≠ 0->R=orc1 F X L k:=fun k hk h h0 => by rw [← hR]; exact orc_stop hk h h0
 have hall:(∀ j,j < L.length->orc1 F X L j=0)->R=0:=fun h => by rw [← hR]; exact orc_all h
 have hll:L.length<=9223372036854775807:=Nat.le_trans hln (by unfold maxLen; decide)
 have HBn:=Lib.hid hbn
 have HStop:=Lib.hid hstop
 have HAll:=Lib.hid hall
 have HX:=Lib.hid hX
 have HN:=Lib.hid hN
 have HL:=Lib.hid hl
 have HLz:=Lib.hid hlz
 have HLn:=Lib.hid hln
 have HT:=Lib.hid hT
 have HW1:=Lib.hid hW1
 have HB1:=Lib.hid hB1
 have Hb1:=Lib.hid hb1
 clear hbn hstop hall hf hl hlz hln hm hW1 hB1 hb1 hcell hR hX hN hT
 unfold frBox at HW1
 go_enter Tryz.func77,Tryz.ntmps77
 go_upto_region 1 with fail
 rw [HW1.out,HB1.out]
 go_wp2_with fail
 refine HBn.out.mono ?_; rintro r w2 ⟨m1,rfl,hm1,hsm1,hb2⟩
 have hbw2:=b_trans Hb1.out hb2
 obtain ⟨W3,hW3⟩:∃ V,(w2.alloc (.map #[] 0)).alloc (.map #[] 0)=V:=⟨_,rfl⟩
 obtain ⟨m2,hm2⟩:∃ m,w2.heap.size=m:=⟨_,rfl⟩
 have hb3:Below w2.heap.size w2 W3:=by rw [← hW3]; exact b_more (b_new w2 _) _
 have hsm2:SM W3 m2 0 (ktM F X L 0):=by
  rw [← hW3,← hm2]
  exact ((SM.made w2).alloc _).to fun s => kt_zero F X L s
 have hkm3:KM 156 W3 (m2 + 1) 0 (anM L 0):=by
  have:=KM.made 156 (w2.alloc (.map #[] 0))
  rw [World.size_alloc,hm2,hW3] at this
  exact this.to fun l => an_zero L l
 have hsm1':=hsm1.below hb3
 have hne2:m1 ≠ m2:=by have:=hsm1.lt; omega
 have hne3:m1 ≠ m2 + 1:=by have:=hsm1.lt; omega
 have hge:w.heap.size<=m2:=by have:=hbw2.size; omega
 have hge3:w.heap.size<=m2 + 1:=by omega
 have HSt:=Lib.hid (And.intro hsm1' (And.intro hsm2 (And.intro hkm3 (b_trans hbw2 hb3))))
 have HW3:=Lib.hid hW3
 have HM2:=Lib.hid hm2
 clear hm1 hsm1 hb2 hbw2 hb3 hsm2 hsm1' hW3 hm2 hkm3
 go_upto_region 3 with fail
 rw [HW3.out,HM2.out]
 go_wp2_with fail
 go_loopw [9,10,11,12,13,14,22] (fun _ _ _ _ _ _ ii wr => ∃ k:Nat,ii=.int .i64 k/\k<=L.length/\(∀ j,j < k->orc1 F X L j=0)/\SM wr m1 F.length (nmdM F F.length)/\SM wr m2 k (ktM F X L k)/\KM 156 wr (m2 + 1) k (anM L k)/\Below w.heap.size w wr) (fun _ _ _ _ _ _ ii _ => L.length - (intOf ii).toNat)
 case atStart => exact ⟨0,rfl,Nat.zero_le _,fun j hj => absurd hj (by omega),HSt.out.1,HSt.out.2.1,HSt.out.2.2.1,HSt.out.2.2.2⟩
 case round =>
  obtain ⟨k,rfl,hk,hzr,hs1,hs2,hs3,hb⟩:=hrel
  obtain ⟨wa,rfl⟩:∃ V,V=wr:=⟨_,rfl⟩
  by_cases hlt:k < L.length
  ·obtain ⟨ad,rfl,hat⟩:=HL.out.below hb k hlt
   have hnz:=HLz.out L[k] (List.getElem_mem hlt)
   have hoe:orc1 F X L k=(if h2:atF F L[k].nm < F.length then
     (if F[atF F L[k].nm].kind=3 then
      (if (kyB (keyV L[k]) (keyT F X (atF F L[k].nm)) && ansB L[k].v F[atF F L[k].nm].ty)=true then (if metO L k L[k]=true then 6 else 0) else 9)
     else 2)
    else 5):=by unfold orc1; rw [dif_pos hlt]
   have hstop:=HStop.out k hlt hzr
   have hnext:orc1 F X L k=0->∀ j,j < k + 1->orc1 F X L j=0:=fun e j hj => by
    by_cases h:j=k
    ·subst h; exact e
    ·exact hzr j (by omega)
   have hktp:=fun t => kt_put (F:=F) (X:=X) hlt t
   have hkts:=fun h t => kt_skip (F:=F) (X:=X) hlt h t
   have hkta:=kt_at (F:=F) (X:=X) hlt
   have hkn:=fun (h:knV (keyV (L[k]'hlt))=true) => kn_keyOf (f:=L[k]'hlt) h hnz
   have hlka:=fun (V:World) (h:KM 156 V (m2 + 1) k (anM L k)) (l:Lit) (hl:keyOf Tryz.prog 156 (rqOf L[k])=some l) => look_an h hlt hl
   have hpta:=fun (V:World) (h:KM 156 V (m2 + 1) k (anM L k)) (l:Lit) (hl:keyOf Tryz.prog 156 (rqOf L[k])=some l) (hn:k < maxLen) => put_an h hlt hl hn
   obtain ⟨f,hfk⟩:∃ f,L[k]=f:=⟨_,rfl⟩
   rw [hfk] at hat hnz hoe hktp hkts hkta hkn hlka hpta
   obtain ⟨q0,q1,q2,q3,q4,q5,q6⟩:=hat
   obtain ⟨W5,hW5⟩:∃ V,wa.alloc (fcBox f)=V:=⟨_,rfl⟩
   obtain ⟨B9,hB9⟩:∃ B,wa.heap.size=B:=⟨_,rfl⟩
   have hb5:=b_new wa (fcBox f)
   have hcell:=fc_cells wa f
   rw [hW5,hB9] at hcell
   rw [hW5] at hb5
   obtain ⟨x0,x1,x2,x3,x4,x5,x6⟩:=hcell W5 (Below.refl _ _)
   have hbw5:=b_trans hb hb5
   have hlk:=look_fd (hs1.below hb5) f.nm hnz
   have HKn:=Lib.hid hkn
   have HLka:=Lib.hid hlka
   have HPta:=Lib.hid hpta
   have HKtp:=Lib.hid hktp
   have HKts:=Lib.hid hkts
   have HKta:=Lib.hid hkta
   have HStop2:=Lib.hid hstop
   have HNx:=Lib.hid hnext
   have HCell:=Lib.hid hcell
   have HW5:=Lib.hid hW5
   have HB9:=Lib.hid hB9
   have HNz:=Lib.hid hnz
   have HSt5:=Lib.hid (And.intro (hs1.below hb5) (And.intro (hs2.below hb5) (And.intro (hs3.below hb5) hbw5)))
   have HKmA:=Lib.hid hs3.lt
   clear hkn hlka hpta hktp hkts hkta hstop hnext hcell hW5 hB9 hnz hb5 hbw5 hs1 hs2 hs3 hb hzr hfk
   unfold fcBox at HW5
   by_cases hd:atF F f.nm < F.length
   ·rw [dif_pos hd] at hoe
    rw [nmd_all hd] at hlk
    have hforms:=HX.out _ hd
    have hrefs:=HN.out _ hd
    obtain ⟨g,hg⟩:∃ g,F[atF F f.nm]=g:=⟨_,rfl⟩
    rw [hg] at hlk hoe hforms
    have hlk2:(Instr.lookup 147 (.map (some m1)) (.string f.nm) true).run Tryz.prog W5=.ok (.tuple #[.agg #[.string g.nm,.int .i64 g.kind,.int .i64 g.ty,.int .i64 g.d.op,.int .i64 g.d.k,.int .i64 g.d.n,.string g.d.s,.string g.d.nm,.slice g.A g.n g.c],.bool true]) W5:=hlk
    obtain ⟨W6,hW6⟩:∃ V,W5.alloc (ShF.fdBox g)=V:=⟨_,rfl⟩
    obtain ⟨B10,hB10⟩:∃ B,W5.heap.size=B:=⟨_,rfl⟩
    have hb6:=b_new W5 (ShF.fdBox g)
    have hcg:=fd_cells9 W5 g
    rw [hW6,hB10] at hcg
    rw [hW6] at hb6
    obtain ⟨y0,y1,y2,y3,y4,y5,y6,y7,y8⟩:=hcg W6 (Below.refl _ _)
    obtain ⟨x0,x1,x2,x3,x4,x5,x6⟩:=HCell.out W6 hb6
    have hbw6:=b_trans HSt5.out.2.2.2 hb6
    have hkt:=fun V (hV:Below W6.heap.size W6 V) => keyType_any F F.length m1 g (X (atF F f.nm)) V ((hforms.2.below HSt5.out.2.2.2).below (b_trans hb6 hV)) ((HSt5.out.1.below hb6).below hV) hrefs (HT.out.below (b_trans hbw6 hV))
    obtain ⟨kt,hktE⟩:∃ t,keyT F X (atF F f.nm)=t:=⟨_,rfl⟩
    have hktE2:(ofT (fts F) (X (atF F f.nm))).1=kt:=hktE
    rw [hktE2] at hkt
    rw [hktE] at hoe HKta HKtp
    have HKt:=Lib.hid hkt
    have HOe:=Lib.hid hoe
    have HCg:=Lib.hid hcg
    have HW6:=Lib.hid hW6
    have HB10:=Lib.hid hB10
    have hs26:=HSt5.out.2.1.below hb6
    have hlk6:=look_kt hs26 f.nm HNz.out
    have HSt6:=Lib.hid (And.intro (HSt5.out.1.below hb6) (And.intro hs26 (And.intro (HSt5.out.2.2.1.below hb6) hbw6)))
    clear hlk hd hg hforms hrefs hkt hktE hktE2 hoe hcg hW6 hB10 hb6 hs26 hbw6
    unfold ShF.fdBox at HW6
    by_cases hkd:g.kind=3
    ·have t3:(g.kind != 3)=false:=by rw [hkd]; rfl
     have hoe:=HOe.out
     rw [if_pos hkd] at hoe
     have HOe2:=Lib.hid hoe
     clear hoe hkd
     have hcells:∀ V,Below W6.heap.size W6 V->V.cell? ⟨B9,0,none⟩=some (.string f.nm)/\V.cell? ⟨B10,0,none⟩=some (.string g.nm)/\V.cell? ⟨B10,1,none⟩=some (.int .i64 g.kind)/\V.cell? ⟨B10,2,none⟩=some (.int .i64 g.ty)/\V.cell? ⟨B10,3,none⟩=some (.int .i64 g.d.op)/\V.cell? ⟨B10,4,none⟩=some (.int .i64 g.d.k)/\V.cell? ⟨B10,5,none⟩=some (.int .i64 g.d.n)/\V.cell? ⟨B10,6,none⟩=some (.string g.d.s)/\V.cell? ⟨B10,7,none⟩=some (.string g.d.nm)/\V.cell? ⟨B10,8,none⟩=some (.slice g.A g.n g.c):=fun V hV => by
      have hW56:Below W5.heap.size W5 W6:=by rw [← HW6.out]; exact b_new W5 _
      exact ⟨(HCell.out V (b_trans hW56 hV)).1,HCg.out V hV⟩
     have hputk:∀ V,Below W6.heap.size W6 V->SM V m2 k (ktM F X L k)->∃ w7,(Instr.mapUpdate 149 (.map (some m2)) (.string f.nm) (.int .i64 kt)).run Tryz.prog V=.ok () w7/\SM w7 m2 (k + 1) (ktM F X L (k + 1))/\V.grownBy w7 (some m2):=fun V hV h => by
      obtain ⟨w7,h1,h2,h3⟩:=put_kt h f.nm HNz.out (.int .i64 kt) (by have:=HLn.out; omega)
      exact ⟨w7,h1,h2.to HKtp.out,h3⟩
     have HCells:=Lib.hid hcells
     have HPutk:=Lib.hid hputk
     clear hcells hputk
     go_upto_region 6 with fail
     rw [HW5.out,HB9.out]
     go_upto_region 7 with fail
     rw [HW6.out,HB10.out]
     have hB9m:m2 + 1 < B9:=by have:=HSt6.out.2.2.1.lt; have h9:=HB9.out; have h5:=HSt5.out.2.2.1.lt; have h0:=HKmA.out; omega
     have hB910:B9 < B10:=by have h9:=HB9.out; have h10:=HB10.out; have h5:=HW5.out; rw [← h10,← h5,World.size_alloc]; omega
     have hB9l:B9 < W6.heap.size:=by have h10:=HB10.out; have h6:=HW6.out; rw [← h6,World.size_alloc]; omega
     have hB10l:B10 < W6.heap.size:=by have h10:=HB10.out; have h6:=HW6.out; rw [← h6,World.size_alloc]; omega
     have hcf:∀ V:World,V.heap[B9]?=W6.heap[B9]?->V.cell? ⟨B9,0,none⟩=some (.string f.nm)/\V.cell? ⟨B9,1,none⟩=some (.int .i64 f.kk)/\V.cell? ⟨B9,2,none⟩=some (.int .i64 f.kn)/\V.cell? ⟨B9,3,none⟩=some (.string f.ks)/\V.cell? ⟨B9,4,none⟩=some (.int .i64 f.v.k)/\V.cell? ⟨B9,5,none⟩=some (.int .i64 f.v.n)/\V.cell? ⟨B9,6,none⟩=some (.string f.v.s):=fun V hV => by
      have hk:∀ o,V.cell? ⟨B9,o,none⟩=W6.cell? ⟨B9,o,none⟩:=fun o => World.cell?_of_block (a:=⟨B9,o,none⟩) hV
      rw [hk,hk,hk,hk,hk,hk,hk]
      have hW56:Below W5.heap.size W5 W6:=by rw [← HW6.out]; exact b_new W5 _
      exact HCell.out W6 hW56
     have hcgB:∀ V:World,V.heap[B10]?=W6.heap[B10]?->V.cell? ⟨B10,0,none⟩=some (.string g.nm)/\V.cell? ⟨B10,1,none⟩=some (.int .i64 g.kind)/\V.cell? ⟨B10,2,none⟩=some (.int .i64 g.ty)/\V.cell? ⟨B10,3,none⟩=some (.int .i64 g.d.op)/\V.cell? ⟨B10,4,none⟩=some (.int .i64 g.d.k)/\V.cell? ⟨B10,5,none⟩=some (.int .i64 g.d.n)/\V.cell? ⟨B10,6,none⟩=some (.string g.d.s)/\V.cell? ⟨B10,7,none⟩=some (.string g.d.nm)/\V.cell? ⟨B10,8,none⟩=some (.slice g.A g.n g.c):=fun V hV => by
      have hk:∀ o,V.cell? ⟨B10,o,none⟩=W6.cell? ⟨B10,o,none⟩:=fun o => World.cell?_of_block (a:=⟨B10,o,none⟩) hV
      rw [hk,hk,hk,hk,hk,hk,hk,hk,hk]
      exact HCg.out W6 (Below.refl _ _)
     have hS7:∀ V w7,Below W6.heap.size W6 V->V.grownBy w7 (some m2)->w7.heap[B9]?=W6.heap[B9]?/\w7.heap[B10]?=W6.heap[B10]?:=fun V w7 hV hg => by
      have h9:V.heap[B9]?=W6.heap[B9]?:=hV.block _ hB9l
      have h10:V.heap[B10]?=W6.heap[B10]?:=hV.block _ hB10l
      exact ⟨(hg.block B9 (Nat.lt_of_lt_of_le hB9l hV.size) (fun e => by injection e with e; omega)).trans h9,(hg.block B10 (Nat.lt_of_lt_of_le hB10l hV.size) (fun e => by injection e with e; omega)).trans h10⟩
     have hcut2:∀ V w7,Below W6.heap.size W6 V->V.grownBy w7 (some m2)->SM w7 m1 F.length (nmdM F F.length)/\KM 156 w7 (m2 + 1) k (anM L k)/\Below w.heap.size w w7:=fun V w7 hV hg => by
      have hbV:=b_trans HSt6.out.2.2.2 hV
      exact ⟨(HSt6.out.1.below hV).kept hg (fun e => by injection e with e; exact hne2 e),(HSt6.out.2.2.1.below hV).kept hg (fun e => by injection e with e; omega),b_grown hbV hg hbV.size hge⟩
     obtain ⟨n6,b6,e6,h6t,h6f⟩:∃ (n6:Int) (b6:Bool),(.tuple #[(ktM F X L k f.nm).getD (.int .i64 0),.bool (ktM F X L k f.nm).isSome]:Value)=.tuple #[.int .i64 n6,.bool b6]/\(b6=true->metB L k f.nm=true)/\(b6=false->metB L k f.nm=false):=by
      unfold ktM
      cases metB L k f.nm
      ·exact ⟨0,false,rfl,fun h => absurd h (by decide),fun _ => rfl⟩
      ·exact ⟨_,true,rfl,fun _ => rfl,fun h => absurd h (by decide)⟩
     rw [e6] at hlk6
     have HCf:=Lib.hid hcf
     have HCgB:=Lib.hid hcgB
     have HS7:=Lib.hid hS7
     have HCut2:=Lib.hid hcut2
     have H6t:=Lib.hid h6t
     have H6f:=Lib.hid h6f
     have HB9l:=Lib.hid (And.intro hB9l hB10l)
     clear hcf hcgB hS7 hcut2 h6t h6f e6 hB9l hB10l hB910 hB9m
     have hbl:Below W6.heap.size W6 W6:=Below.refl _ _
     go_upto_region 12 with fail
     go_upto_if 46 with (fail)
     go_cut [] (fun wx => SM wx m1 F.length (nmdM F F.length)/\SM wx m2 (k + 1) (ktM F X L (k + 1))/\KM 156 wx (m2 + 1) k (anM L k)/\wx.heap[B9]?=W6.heap[B9]?/\wx.heap[B10]?=W6.heap[B10]?/\Below w.heap.size w wx)
     case first =>
      cases b6 with
      | true =>
       have hm6:=H6t.out rfl
       have HM6:=Lib.hid hm6
       clear hm6
       go_wp2_with fail
       go_meet
       exact ⟨HSt6.out.1,(HSt6.out.2.1.to (HKts.out HM6.out)).mono (Nat.le_succ _),HSt6.out.2.2.1,rfl,rfl,HSt6.out.2.2.2⟩
      | false =>
       obtain ⟨_,y0,y1,y2,y3,y4,y5,y6,y7,y8⟩:=HCells.out W6 hbl
       go_wp2_with fail
       go_region_held3 (fun V => V.cell? ⟨B9,0,none⟩=some (.string f.nm)/\V.cell? ⟨B10,0,none⟩=some (.string g.nm)/\V.cell? ⟨B10,1,none⟩=some (.int .i64 g.kind)/\V.cell? ⟨B10,2,none⟩=some (.int .i64 g.ty)/\V.cell? ⟨B10,3,none⟩=some (.int .i64 g.d.op)/\V.cell? ⟨B10,4,none⟩=some (.int .i64 g.d.k)/\V.cell? ⟨B10,5,none⟩=some (.int .i64 g.d.n)/\V.cell? ⟨B10,6,none⟩=some (.string g.d.s)/\V.cell? ⟨B10,7,none⟩=some (.string g.d.nm)/\V.cell? ⟨B10,8,none⟩=some (.slice g.A g.n g.c)) (first | (with_reducible exact hS) | (with_reducible exact HCells.out _ hbl) | (with_reducible exact HCells.out _ (b_drew hbl)))
        (first | (go_at_call 101; (with_reducible refine (HKt.out _ ?_).mono ?_); (first | exact hbl | exact b_drew hbl); rintro e wn ⟨rfl,hbn⟩; have hbl:Below W6.heap.size W6 wn:=(by (first | (exact TyO.b_step hbl hbn) | (exact TyO.b_step (b_drew hbl) hbn))); obtain ⟨w7,hput7,hs7,hg7⟩:=HPutk.out wn hbl (HSt6.out.2.1.below hbl); have hS:=And.intro (HCf.out w7 (HS7.out wn w7 hbl hg7).1).1 (HCgB.out w7 (HS7.out wn w7 hbl hg7).2); have HW7:=Lib.hid (And.intro hs7 (And.intro (HS7.out wn w7 hbl hg7) (HCut2.out wn w7 hbl hg7))); clear hs7 hg7))
       all_goals (go_wp2_with fail; go_meet)
       all_goals exact ⟨HW7.out.2.2.1,HW7.out.1,HW7.out.2.2.2.1,HW7.out.2.1.1,HW7.out.2.1.2,HW7.out.2.2.2.2⟩
     case rest =>
      obtain ⟨hs1,hs2,hs3,e9,e10,hb⟩:=hcut
      obtain ⟨x0,x1,x2,x3,x4,x5,x6⟩:=HCf.out wc e9
      obtain ⟨y0,y1,y2,y3,y4,y5,y6,y7,y8⟩:=HCgB.out wc e10
      have hlk1:=look_kt1 hs2 f.nm HNz.out
      rw [HKta.out] at hlk1
      have hlk2:(Instr.lookup 149 (.map (some m2)) (.string f.nm) false).run Tryz.prog wc=.ok (.int .i64 kt) wc:=hlk1
      have hky:=fun V => isKey_any (keyV f) kt V
      have han:=fun V => isAnswer_any f.v g.ty V
      have hB9w:B9 < wc.heap.size/\B10 < wc.heap.size:=⟨by have h:=e9.trans (Array.getElem?_eq_getElem HB9l.out.1); exact (Array.getElem?_eq_some_iff.1 h).1,by have h:=e10.trans (Array.getElem?_eq_getElem HB9l.out.2); exact (Array.getElem?_eq_some_iff.1 h).1⟩
      have hcw:∀ V,Below wc.heap.size wc V->V.heap[B9]?=W6.heap[B9]?/\V.heap[B10]?=W6.heap[B10]?:=fun V hV => ⟨(hV.block B9 hB9w.1).trans e9,(hV.block B10 hB9w.2).trans e10⟩
      obtain ⟨b1,hb1⟩:∃ b,kyB (keyV f) kt=b:=⟨_,rfl⟩
      obtain ⟨b2,hb2⟩:∃ b,ansB f.v g.ty=b:=⟨_,rfl⟩
      have hoe:=HOe2.out
      rw [hb1] at hky hoe
      rw [hb2] at han hoe
      have hknown:b1=true->knV (keyV f)=true:=fun h => by
       rw [h] at hb1
       unfold kyB at hb1
       rw [Bool.and_eq_true] at hb1
       exact hb1.1
      unfold vlA at hky han
      have hky2:∀ V,Calls Tryz.prog 102 #[.agg #[.int .i64 f.kk,.int .i64 f.kn,.string f.ks],.int .i64 kt] V fun e w' => e=.returned (.bool b1)/\Below V.heap.size V w':=hky
      have HKy:=Lib.hid hky2
      have HAn:=Lib.hid han
      have HKnown:=Lib.hid hknown
      have HOe3:=Lib.hid hoe
      have HCw:=Lib.hid hcw
      have HC1:=Lib.hid (And.intro hs1 (And.intro hs2 (And.intro hs3 hb)))
      clear hky hky2 han hknown hoe hcw hs1 hs2 hs3 hb e9 e10 hB9w hb1 hb2 hlk1
      cases b1 with
      | false =>
       have hoe:orc1 F X L k=9:=HOe3.out.trans (if_neg (by rw [Bool.false_and]; decide))
       obtain rfl:=(HStop2.out (by rw [hoe]; decide)).trans hoe
       clear hoe
       go_wp2_with (go_at_call 102; (with_reducible refine (HKy.out _).mono ?_); rintro e w1 ⟨rfl,hb1⟩; have HBE:=Lib.hid (b_trans HC1.out.2.2.2 hb1); clear hb1)
       go_ret
       exact ⟨rfl,HBE.out⟩
      | true =>
       have hkn2:=HKnown.out rfl
       have HKn2:=Lib.hid hkn2
       clear hkn2
       cases b2 with
       | false =>
        have hoe:orc1 F X L k=9:=HOe3.out.trans (if_neg (by decide))
        obtain rfl:=(HStop2.out (by rw [hoe]; decide)).trans hoe
        clear hoe
        go_wp2_with (first | (go_at_call 102; (with_reducible refine (HKy.out _).mono ?_); rintro e w1 ⟨rfl,hb1⟩; obtain ⟨x0,x1,x2,x3,x4,x5,x6⟩:=HCf.out w1 (HCw.out w1 hb1).1; obtain ⟨y0,y1,y2,y3,y4,y5,y6,y7,y8⟩:=HCgB.out w1 (HCw.out w1 hb1).2; have HBE:=Lib.hid (b_trans HC1.out.2.2.2 hb1); clear hb1) | (go_at_call 103; (with_reducible refine (HAn.out _).mono ?_); rintro e w9 ⟨rfl,hb9⟩; have HBE2:=Lib.hid (b_trans HBE.out hb9); clear hb9))
        go_ret
        exact ⟨rfl,HBE2.out⟩
       | true =>
        have hoe:=HOe3.out
        rw [if_pos (show (true && true)=true from rfl)] at hoe
        have HOe4:=Lib.hid hoe
        clear hoe
        obtain ⟨l,hl9⟩:=HKn.out HKn2.out
        go_upto_region 16 with (first | (go_at_call 102; (with_reducible refine (HKy.out _).mono ?_); rintro e w1 ⟨rfl,hb1⟩; obtain ⟨x0,x1,x2,x3,x4,x5,x6⟩:=HCf.out w1 (HCw.out w1 hb1).1; obtain ⟨y0,y1,y2,y3,y4,y5,y6,y7,y8⟩:=HCgB.out w1 (HCw.out w1 hb1).2; have HBE:=Lib.hid hb1; clear hb1) | (go_at_call 103; (with_reducible refine (HAn.out _).mono ?_); rintro e w9 ⟨rfl,hb9⟩; have HBE2:=Lib.hid (b_trans HBE.out hb9); obtain ⟨x0,x1,x2,x3,x4,x5,x6⟩:=HCf.out w9 (HCw.out w9 (b_trans HBE.out hb9)).1; clear hb9))
        obtain ⟨W7,hW7⟩:∃ V,w9.alloc (rqBox f)=V:=⟨_,rfl⟩
        obtain ⟨B11,hB11⟩:∃ B,w9.heap.size=B:=⟨_,rfl⟩
        have hb7:=b_new w9 (rqBox f)
        have hcr:=rq_cells w9 f
        rw [hW7,hB11] at hcr
        rw [hW7] at hb7
        obtain ⟨z0,z1,z2,z3⟩:=hcr W7 (Below.refl _ _)
        have hbc7:=b_trans HBE2.out hb7
        have hk7:=HC1.out.2.2.1.below hbc7
        have hla:=HLka.out W7 hk7 l hl9
        obtain ⟨w8,hput8,hs8,hg8⟩:=HPta.out W7 hk7 l hl9 (by have:=HLn.out; omega)
        obtain ⟨mo,hmo⟩:∃ b,metO L k f=b:=⟨_,rfl⟩
        have hoe:=HOe4.out
        rw [hmo] at hla hoe
        have hla2:(Instr.lookup 150 (.map (some (m2 + 1))) (.agg #[.string f.nm,.int .i64 f.kk,.int .i64 f.kn,.string f.ks]) false).run Tryz.prog W7=.ok (.bool mo) W7:=hla
        have hput9:(Instr.mapUpdate 150 (.map (some (m2 + 1))) (.agg #[.string f.nm,.int .i64 f.kk,.int .i64 f.kn,.string f.ks]) (.bool true)).run Tryz.prog W7=.ok () w8:=hput8
        have hbw7:=b_trans HC1.out.2.2.2 hbc7
        have HW7:=Lib.hid hW7
        have HB11:=Lib.hid hB11
        have HEnd:=Lib.hid (show SM w8 m1 F.length (nmdM F F.length)/\SM w8 m2 (k + 1) (ktM F X L (k + 1))/\KM 156 w8 (m2 + 1) (k + 1) (anM L (k + 1))/\Below w.heap.size w w8 from
         ⟨(HC1.out.1.below hbc7).kept hg8 (fun e => by injection e with e; exact hne3 e),(HC1.out.2.1.below hbc7).kept hg8 (fun e => by injection e with e; omega),hs8,b_grown hbw7 hg8 hbw7.size hge3⟩)
        have HBw7:=Lib.hid hbw7
        clear hla hput8 hs8 hg8 hk7 hbc7 hW7 hB11 hb7 hcr hmo hbw7
        unfold rqBox at HW7
        go_upto_region 17 with fail
        rw [HW7.out,HB11.out]
        cases mo with
        | true =>
         have hoe6:orc1 F X L k=6:=hoe.trans (if_pos rfl)
         obtain rfl:=(HStop2.out (by rw [hoe6]; decide)).trans hoe6
         clear hoe hoe6
         go_wp2_with fail
         go_ret
         exact ⟨rfl,HBw7.out⟩
        | false =>
         have hoe6:orc1 F X L k=0:=hoe.trans (if_neg (by decide))
         have HNx2:=Lib.hid (HNx.out hoe6)
         clear hoe hoe6
         go_wp2_with fail
         go_roundw
         case rel => exact ⟨k + 1,by go_num,by omega,HNx2.out,HEnd.out.1,HEnd.out.2.1,HEnd.out.2.2.1,HEnd.out.2.2.2⟩
         case measure => simp [intOf]; omega
    ·have t3:(g.kind != 3)=true:=bne_iff_ne.2 hkd
     have hoe:=HOe.out
     rw [if_neg hkd] at hoe
     obtain rfl:=(HStop2.out (by rw [hoe]; decide)).trans hoe
     clear hoe hlk6 hkd
     go_upto_region 6 with fail
     rw [HW5.out,HB9.out]
     go_upto_region 7 with fail
     rw [HW6.out,HB10.out]
     go_wp2_with fail
     go_ret
     exact ⟨rfl,HSt6.out.2.2.2⟩
   ·rw [dif_neg hd] at hoe
    rw [nmd_none hd] at hlk
    have hlk2:(Instr.lookup 147 (.map (some m1)) (.string f.nm) true).run Tryz.prog W5=.ok (.tuple #[.agg #[.string ⟨#[]⟩,.int .i64 0,.int .i64 0,.int .i64 0,.int .i64 0,.int .i64 0,.string ⟨#[]⟩,.string ⟨#[]⟩,.slice none 0 0],.bool false]) W5:=hlk
    obtain rfl:=(HStop2.out (by rw [hoe]; decide)).trans hoe
    have HBE:=Lib.hid (b_more HSt5.out.2.2.2 (.cells #[.string ⟨#[]⟩,.int .i64 0,.int .i64 0,.int .i64 0,.int .i64 0,.int .i64 0,.string ⟨#[]⟩,.string ⟨#[]⟩,.slice none 0 0] 43))
    clear hoe hlk hd
    go_upto_region 6 with fail
    rw [HW5.out,HB9.out]
    go_wp2_with fail
    go_ret
    exact ⟨rfl,HBE.out⟩
  ·have e0:=HAll.out fun j hj => hzr j (by omega)
   subst e0
   have HB:=Lib.hid hb
   clear hb hs1 hs2 hs3 hzr
   go_wp2_with fail
   go_ret
   exact ⟨rfl,HB.out⟩
end Wh4
namespace ShowM
open ValM
def escL (l:List UInt8):List UInt8:=l.flatMap fun c => if c=34 ∨ c=92 then [92,c] else [c]
def quoteL (l:List UInt8):List UInt8:=34 :: (escL l ++ [34])
def showL (k n:Int) (l:List UInt8):List UInt8 :=
 if k=2 then Lib.formatBool (decide (n=1)) else if k=3 then quoteL l else if k=4 then [63] else if k=5 then 33 :: Lib.itoa n else Lib.itoa n
end ShowM
namespace PrM
open ValM LexM ExM ShowM
def rwF (op:Int):NotTab.Rw:=NotTab.rows.getD op.toNat ([],0,0)
def precF (op:Int):Int:=(rwF op).2.1
def signF (op:Int):List UInt8:=(rwF op).1
def leftF (op:Int):Int:=if precF op=2 then precF op + 1 else precF op
end PrM
namespace PsM
open LexM ExM
def rwP (op:Nat):NotTab.Rw:=NotTab.rows.getD op ([],0,0)
def opAt (q:Nat) (s:List UInt8):Option Nat:=(List.range 19).find? fun op => decide (3<=op) && decide ((rwP op).2.1=(q:Int)) && decide ((rwP op).1=s)
def opN (op:Nat) (l:List Ex):Ex:=.mk ⟨(op:Int),0,0,⟨#[]⟩,⟨#[]⟩⟩ l
def trueB:List UInt8:=[116,114,117,101]
def falseB:List UInt8:=[102,97,108,115,101]
def leafN (t:Tk):Option Ex :=
 if t.kind=1 ∨ t.kind=3 then some (.mk ⟨1,t.vk,t.n,⟨t.t.toArray⟩,⟨#[]⟩⟩ [])
 else if t.s=trueB then some (.mk ⟨1,2,1,⟨#[]⟩,⟨#[]⟩⟩ [])
 else if t.s=falseB then some (.mk ⟨1,2,0,⟨#[]⟩,⟨#[]⟩⟩ [])
 else if t.kind=2/\keyB t.s=false then some (.mk ⟨2,0,0,⟨#[]⟩,⟨t.s.toArray⟩⟩ [])
 else none
inductive Job where
 | form (q:Nat)
 | loop (q:Nat) (x:Ex)
 | list (n:Nat) (acc:List Ex)
inductive Out where
 | ok (l:List Ex) (r:List Tk)
 | bad (r:List Tk)
 | tired
def isNext (s:List UInt8):List Tk->Bool
 | [] => false
 | t :: _ => decide (t.s=s)
def wrap (op:Nat):Out->Out
 | .ok l r => .ok [opN op l] r
 | o => o
def run:Nat->Job->List Tk->Out
 | 0,_,_ => .tired
 | f + 1,.form q,ts =>
  if q=5 then
   match ts with
   | [] => .bad []
   | t :: r =>
    match opAt 5 t.s with
    | some op => wrap op (run f (.form 5) r)
    | none =>
     if t.s=[40] then run f (.list 1 []) r
     else match opAt 6 t.s with
      | some op => if isNext [40] r then wrap op (run f (.list (arity op) []) r.tail) else .bad r
      | none => match leafN t with
       | some x => .ok [x] r
       | none => .bad (t :: r)
  else match run f (.form (q + 1)) ts with
   | .ok (x :: _) r => run f (.loop q x) r
   | o => o
 | f + 1,.loop q x,ts =>
  match ts with
  | [] => .ok [x] []
  | t :: r =>
   match opAt q t.s with
   | none => .ok [x] (t :: r)
   | some op => match run f (.form (q + 1)) r with
    | .ok (y :: _) r' => if q=2 then .ok [opN op [x,y]] r' else run f (.loop q (opN op [x,y])) r'
    | o => o
 | f + 1,.list n acc,ts =>
  match run f (.form 0) ts with
  | .ok (x :: _) r =>
   if acc.length + 1 < n then (if isNext [44] r then run f (.list n (acc ++ [x])) r.tail else .bad r)
   else (if isNext [41] r then .ok (acc ++ [x]) r.tail else .bad r)
  | o => o
def Ev (j:Job) (ts:List Tk) (o:Out):Prop:=o ≠ .tired/\∃ f0,∀ f,f0<=f->run f j ts=o
theorem Ev.step {j:Job} {ts:List Tk} {o:Out} {f0:Nat} (h0:o ≠ .tired) (h:∀ f,f0<=f->run (f + 1) j ts=o):Ev j ts o :=
 ⟨h0,f0 + 1,fun f hf => by
  obtain ⟨g,rfl⟩:∃ g,f=g + 1:=⟨f - 1,by omega⟩
  exact h g (by omega)⟩
theorem ev_paren {t:Tk} {r:List Tk} {o:Out} (h:opAt 5 t.s=none) (hp:t.s=[40]) (hr:Ev (.list 1 []) r o):Ev (.form 5) (t :: r) o:=by
 obtain ⟨h0,g,hg⟩:=hr
 rw [hp] at h
 refine Ev.step (f0:=g) h0 fun f hf => ?_
 simp only [run,if_pos,hp,h,hg f hf]
theorem ev_form {q:Nat} {ts r:List Tk} {x:Ex} {o:Out} (hq:q ≠ 5) (h1:Ev (.form (q + 1)) ts (.ok [x] r)) (h2:Ev (.loop q x) r o):Ev (.form q) ts o:=by
 obtain ⟨_,g1,hg1⟩:=h1
 obtain ⟨h0,g2,hg2⟩:=h2
 refine Ev.step (f0:=max g1 g2) h0 fun f hf => ?_
 simp only [run,if_neg hq,hg1 f (by omega),hg2 f (by omega)]
theorem ev_form_bad {q:Nat} {ts r:List Tk} (hq:q ≠ 5) (h1:Ev (.form (q + 1)) ts (.bad r)):Ev (.form q) ts (.bad r):=by
 obtain ⟨_,g1,hg1⟩:=h1
 refine Ev.step (f0:=g1) (by simp) fun f hf => ?_
 simp only [run,if_neg hq,hg1 f (by omega)]
theorem ev_loop_end {q:Nat} {x:Ex}:Ev (.loop q x) [] (.ok [x] []):=Ev.step (f0:=0) (by simp) fun f _ => by simp [run]
theorem ev_loop_none {q:Nat} {x:Ex} {t:Tk} {r:List Tk} (h:opAt q t.s=none):Ev (.loop q x) (t :: r) (.ok [x] (t :: r)):=Ev.step (f0:=0) (by simp) fun f _ => by simp [run,h]
theorem ev_list_last {n:Nat} {acc:List Ex} {ts r:List Tk} {x:Ex} (h1:Ev (.form 0) ts (.ok [x] r)) (hn:¬ acc.length + 1 < n) (hc:isNext [41] r=true):Ev (.list n acc) ts (.ok (acc ++ [x]) r.tail):=by
 obtain ⟨_,g1,hg1⟩:=h1
 refine Ev.step (f0:=g1) (by simp) fun f hf => ?_
 simp [run,hg1 f (by omega),hn,hc]
inductive Ch (q:Nat):Nat->Ex->List Tk->Out->Prop where
 | stop {h:Nat} {x:Ex} {ts:List Tk} (hq:h<=q):Ch q h x ts (.ok [x] ts)
 | next {h:Nat} {x y:Ex} {ts r:List Tk} {o:Out} (hq:q<=h) (h1:Ev (.loop h x) ts (.ok [y] r)) (h2:Ch q h y r o):Ch q (h + 1) x ts o
 | bad {h:Nat} {x:Ex} {ts r:List Tk} (hq:q<=h) (h1:Ev (.loop h x) ts (.bad r)):Ch q (h + 1) x ts (.bad r)
theorem form_bad {q h:Nat} (hq:q<=h) (h5:h<=5) {ts r:List Tk} (h2:Ev (.form h) ts (.bad r)):Ev (.form q) ts (.bad r):=by
 induction h with
 | zero =>
  have:q=0:=by omega
  subst this; exact h2
 | succ h ih =>
  rcases Nat.lt_or_ge q (h + 1) with g | g
  ·exact ih (by omega) (by omega) (ev_form_bad (by omega) h2)
  ·have:q=h + 1:=by omega
   subst this; exact h2
theorem form_of_chain {q h:Nat} (hq:q<=h) (h5:h<=5) {ts:List Tk} {x:Ex} {r:List Tk} (h1:Ev (.form h) ts (.ok [x] r)) {o:Out} (hc:Ch q h x r o):Ev (.form q) ts o:=by
 induction h generalizing x r o with
 | zero =>
  have:q=0:=by omega
  subst this
  cases hc with
  | stop _ => exact h1
 | succ h ih =>
  cases hc with
  | stop hle =>
   have:q=h + 1:=by omega
   subst this; exact h1
  | next hle hl hr => exact ih hle (by omega) (ev_form (by omega) h1 hl) hr
  | bad hle hl =>
   have h2:Ev (.form h) ts (.bad _):=ev_form (by omega) h1 hl
   exact form_bad hle (by omega) h2
theorem chain_none {q h:Nat} {x:Ex} {ts:List Tk} (hn:∀ p,q<=p->p < h->∀ t r,ts=t :: r->opAt p t.s=none):Ch q h x ts (.ok [x] ts):=by
 induction h with
 | zero => exact .stop (Nat.zero_le _)
 | succ h ih =>
  rcases Nat.lt_or_ge h q with g | g
  ·exact .stop g
  ·refine .next g ?_ (ih fun p h1 h2 => hn p h1 (by omega))
   cases ts with
   | nil => exact ev_loop_end
   | cons t r => exact ev_loop_none (hn h g (by omega) t r rfl)
theorem chain_skip {q p h:Nat} {x:Ex} {t:Tk} {r:List Tk} {o:Out} (hqp:q<=p) (hph:p < h) (hn:∀ m,p < m->m < h->opAt m t.s=none) (hc:Ch q (p + 1) x (t :: r) o):Ch q h x (t :: r) o:=by
 induction h with
 | zero => omega
 | succ h ih =>
  rcases Nat.lt_or_ge p h with g | g
  ·exact .next (by omega) (ev_loop_none (hn h g (by omega))) (ih g fun m h1 h2 => hn m h1 (by omega))
  ·have:p=h:=by omega
   subst this; exact hc
end PsM
namespace PbL
open ValM LexM ExM ShowM PrM NumM ParseM
set_option linter.unusedVariables false
abbrev B:=Int × List UInt8 × Int × Int × List UInt8
def word (s:List UInt8):B:=(2,s,0,0,[])
def sg (s:List UInt8):B:=(4,s,0,0,[])
end PbL
namespace PbT
open ValM LexM ExM ShowM PrM NumM ParseM PbL PsM
set_option linter.unusedVariables false
def opB (op:Int):B:=if op=4 ∨ op=15 ∨ op=16 ∨ op=17 ∨ op=18 then word (signF op) else sg (signF op)
def brB (p:Int) (t:Int × List B):List B:=if precF t.1 < p then sg [40] :: (t.2 ++ [sg [41]]) else t.2
def commasB:List (List B)->List B
 | [] => []
 | [a] => a
 | a :: r => a ++ (sg [44] :: commasB r)
def argB (ts:List (Int × List B)) (i:Nat):Int × List B:=ts.getD i (0,[])
def leafB (d:Nd):B :=
 if d.op=1 then (if d.k=1 then (1,Lib.itoa d.n,1,d.n,[]) else if d.k=2 then word (showL 2 d.n []) else (3,quoteL d.s.data.toList,3,0,d.s.data.toList)) else word d.nm.data.toList
def btF (d:Nd) (ts:List (Int × List B)):List B :=
 if d.op=1 ∨ d.op=2 then [leafB d]
 else if precF d.op=6 then opB d.op :: sg [40] :: (commasB (ts.map (·.2)) ++ [sg [41]])
 else if precF d.op=5 then opB d.op :: brB 5 (argB ts 0)
 else brB (leftF d.op) (argB ts 0) ++ (opB d.op :: brB (precF d.op + 1) (argB ts 1))
mutual
def Ex.bt:Ex->List B | .mk d l => btF d (btL l)
def btL:List Ex->List (Int × List B) | [] => [] | x :: l => (x.d.op,Ex.bt x) :: btL l
end
theorem ops {op:Int} (h1:3<=op) (h2:op<=18):op=3 ∨ op=4 ∨ op=5 ∨ op=6 ∨ op=7 ∨ op=8 ∨ op=9 ∨ op=10 ∨ op=11 ∨ op=12 ∨ op=13 ∨ op=14 ∨ op=15 ∨ op=16 ∨ op=17 ∨ op=18:=by omega
end PbT
namespace PbP
open ValM LexM ExM ShowM PrM NumM ParseM PbL PsM PbT
set_option linter.unusedVariables false
theorem opAt_none {s:List UInt8} (h:∀ op,3<=op->op < 19->(rwP op).1 ≠ s) (m:Nat):PsM.opAt m s=none:=by
 unfold PsM.opAt
 rw [List.find?_eq_none]
 intro op hop
 rw [List.mem_range] at hop
 simp only [Bool.and_eq_true,decide_eq_true_eq,not_and]
 intro g e
 exact h op g.1 hop e
theorem opsN {op:Nat} (h1:3<=op) (h2:op < 19):op=3 ∨ op=4 ∨ op=5 ∨ op=6 ∨ op=7 ∨ op=8 ∨ op=9 ∨ op=10 ∨ op=11 ∨ op=12 ∨ op=13 ∨ op=14 ∨ op=15 ∨ op=16 ∨ op=17 ∨ op=18:=by omega
theorem par_none:(∀ m,PsM.opAt m [40]=none)/\(∀ m,PsM.opAt m [41]=none)/\∀ m,PsM.opAt m [44]=none:=by
 refine ⟨fun m => opAt_none (fun op g1 g2 e => ?_) m,fun m => opAt_none (fun op g1 g2 e => ?_) m,fun m => opAt_none (fun op g1 g2 e => ?_) m⟩
 all_goals
  obtain h' | h' | h' | h' | h' | h' | h' | h' | h' | h' | h' | h' | h' | h' | h' | h':=opsN g1 g2
  all_goals subst h'; revert e; decide
theorem bare_s {t:Tk} {b:B} (h:t.bare=b):t.s=b.2.1:=by subst h; rfl
def Clear (q:Nat) (r:List Tk):Prop:=∀ m,q<=m->m < 5->∀ t r',r=t :: r'->PsM.opAt m t.s=none
theorem Clear.mono {q q':Nat} {r:List Tk} (h:Clear q r) (hq:q<=q'):Clear q' r:=fun m h1 h2 => h m (by omega) h2
theorem Clear.of {q:Nat} {t:Tk} {r:List Tk} (h:∀ m,PsM.opAt m t.s=none):Clear q (t :: r):=fun m _ _ t' r' e => by injection e with e _; subst e; exact h m
def pN (x:Ex):Nat:=min 5 (precF x.d.op).toNat
def topN (x:Ex):Nat:=if 5<=pN x then 5 else if pN x=2 then 2 else pN x + 1
def Rd (x:Ex):Prop:=∀ (q:Nat) (ts r:List Tk) (o:Out),ts.map Tk.bare=Ex.bt x->q<=pN x->Clear (pN x + 1) r->Ch q (topN x) x r o->Ev (.form q) (ts ++ r) o
theorem top_le (x:Ex):topN x<=5/\pN x<=topN x:=by
 have h:pN x<=5:=Nat.min_le_left _ _
 unfold topN
 split
 ·omega
 ·split <;> omega
theorem ch_clear {q h:Nat} {x:Ex} {r:List Tk} (h5:h<=5) (hc:Clear q r):Ch q h x r (.ok [x] r):=chain_none fun p h1 h2 t r' e => hc p h1 (by omega) t r' e
theorem Rd.clear {x:Ex} (h:Rd x) {q:Nat} {ts r:List Tk} (e:ts.map Tk.bare=Ex.bt x) (hq:q<=pN x) (hc:Clear q r):Ev (.form q) (ts ++ r) (.ok [x] r) :=
 h q ts r _ e hq (hc.mono (by omega)) (ch_clear (top_le x).1 hc)
theorem Rd.paren {x:Ex} (h:Rd x) {ts r:List Tk} (e:ts.map Tk.bare=sg [40] :: (Ex.bt x ++ [sg [41]])):Ev (.form 5) (ts ++ r) (.ok [x] r):=by
 obtain ⟨a,us,rfl,ha,hu⟩:=List.map_eq_cons_iff.1 e
 obtain ⟨m,b,rfl,hm,hb⟩:=List.map_eq_append_iff.1 hu
 obtain ⟨b,rfl,hb'⟩:=List.map_eq_singleton_iff.1 hb
 have ea:=bare_s ha
 have eb:=bare_s hb'
 have e0:(a :: (m ++ [b]) ++ r)=a :: (m ++ (b :: r)):=by simp
 rw [e0]
 refine ev_paren (by rw [ea]; exact par_none.1 5) ea ?_
 have h1:=h.clear (q:=0) (r:=b :: r) hm (Nat.zero_le _) (Clear.of fun k => by rw [eb]; exact par_none.2.1 k)
 exact ev_list_last (acc:=[]) h1 (by simp) (by simp [isNext,eb]; rfl)
theorem Rd.left {x:Ex} (h:Rd x) {q p lf:Nat} {l:Int} (hl:l=(lf:Int)) (hqp:q<=p) (hp:p < 5) (hlf:lf=if p=2 then 3 else p) {ts r:List Tk} {t:Tk} {o:Out} (e:ts.map Tk.bare=brB l (x.d.op,Ex.bt x))
  (hn:∀ m,m < 5->m ≠ p->PsM.opAt m t.s=none) (hc:Ch q (p + 1) x (t :: r) o):Ev (.form q) (ts ++ t :: r) o:=by
 unfold brB at e
 split at e
 ·exact form_of_chain (by omega) (Nat.le_refl _) (h.paren e) (chain_skip hqp hp (fun m h1 h2 => hn m h2 (by omega)) hc)
 ·rename_i hb
  simp only at hb
  have hlp:lf<=pN x:=by
   unfold pN
   split at hlf <;> omega
  have hpp:p<=pN x:=by split at hlf <;> omega
  have htop:p < topN x:=by
   unfold topN
   split
   ·omega
   ·split
    ·split at hlf <;> omega
    ·omega
  refine h q ts (t :: r) o e (by omega) (fun m h1 h2 t' r' e' => ?_) (chain_skip hqp htop (fun m h1 h2 => hn m (by have:=(top_le x).1; omega) (by omega)) hc)
  injection e' with e' _; subst e'
  exact hn m h2 (by omega)
end PbP
namespace PbN
open ValM LexM ExM ShowM PrM NumM ParseM PbL PsM PbT PbP PsLx
set_option linter.unusedVariables false
end PbN
namespace TxM
open ValM LexM ExM ShowM PrM
set_option linter.unusedVariables false
theorem nmB_parts {l:List UInt8} (h:nmB l=true):l ≠ []/\l.length<=10/\∀ c ∈ l,alnB c=true:=by
 unfold nmB at h
 simp only [Bool.and_eq_true,Bool.not_eq_true',decide_eq_true_eq] at h
 obtain ⟨⟨⟨h1,h2⟩,h3⟩,_⟩:=h
 refine ⟨fun e => by subst e; simp at h1,h2,fun c hc => ?_⟩
 cases l with
 | nil => simp at hc
 | cons a r =>
  unfold nameB at h3
  simp only [Bool.and_eq_true] at h3
  rcases List.mem_cons.1 hc with rfl | hc
  ·unfold alnB; rw [h3.1]; rfl
  ·exact List.all_eq_true.1 h3.2 c hc
end TxM
namespace TxR
open ValM LexM ExM ShowM PrM TxM
set_option linter.unusedVariables false
structure Fl where
 nm:List UInt8
 k:Int
 t:Int
 x:Ex
def noX:Ex:=.mk ⟨0,0,0,⟨#[]⟩,⟨#[]⟩⟩ []
structure FlOk (f:Fl):Prop where
 nm:nmB f.nm=true
 k:1<=f.k/\f.k<=3
 t:1<=f.t/\f.t<=3
 no:f.k=1->f.x=noX
theorem cl_iff {l:List UInt8}:cleanL l=true ↔ ∀ c ∈ l,32<=c.toNat/\c.toNat<=126:=by
 unfold cleanL
 rw [List.all_eq_true]
 constructor
 ·intro h c hc; have:=h c hc; simpa using this
 ·intro h c hc; simpa using h c hc
theorem cl_name {l:List UInt8} (h:nmB l=true):cleanL l=true:=by
 rw [cl_iff]
 intro c hc
 have:=(nmB_parts h).2.2 c hc
 unfold alnB lowB digB at this
 simp only [Bool.or_eq_true,Bool.and_eq_true,decide_eq_true_eq] at this
 omega
end TxR
namespace NmP
open Go.RowKit Go.Shelf
open ExM NmM Kit ExL ExP ExV ExN NmC
set_option linter.unusedVariables false
end NmP
namespace NmR
open Go.RowKit
open ExM NmM Kit ExL ExP ExV ExN NmC NmP
set_option linter.unusedVariables false
theorem app_keep {V W':World} {o:Obj} {b:Nat} {row:Option Nat} (hg:(V.alloc o).grownBy W' row) (hl:b < V.heap.size) (hne:some b ≠ row):W'.heap[b]?=V.heap[b]? :=
 (hg.block b (by simp; omega) hne).trans ((b_new V o).block b hl)
theorem own_base {w:World} {base b2:Nat} {e:TypeId} {size:Nat} {v:Value} {n:Nat} {xs:List Value} (h:w.ownsRow base e size v n xs) (hb:b2<=base):w.ownsRow b2 e size v n xs:=by
 refine ⟨h.1,?_⟩
 rcases h.2 with h2 | ⟨g,cap,cur,h1,h2,h3⟩
 ·exact .inl h2
 ·exact .inr ⟨g,cap,cur,h1,by omega,h3⟩
end NmR
namespace NmA
open Go.RowKit
open ExM NmM Kit ExL ExP ExV NmC NmP NmR
set_option linter.unusedVariables false
def strV (L:List ByteArray):List Value:=L.map Value.string
theorem strV_len (L:List ByteArray):(strV L).length=L.length:=List.length_map _
theorem strV_append (L M:List ByteArray):strV (L ++ M)=strV L ++ strV M:=List.map_append
theorem infoStr:(Tryz.prog.info? 9).map (fun i => (i.zero,i.size,i.bytes))=some (some (.string ⟨#[]⟩),1,16):=by kernel_rfl
def SRow (w:World) (A:Option Addr) (L:List ByteArray):Prop:=∀ (j:Nat) (h:j < L.length),∃ g,A=some ⟨g,0,none⟩/\w.cell? ⟨g,j,none⟩=some (.string L[j])
theorem SRow.of_own {w:World} {base:Nat} {v:Value} {L:List ByteArray} (h:w.ownsRow base 9 1 v L.length (strV L)):∃ A c,v=.slice A L.length c/\SRow w A L:=by
 rcases h.2 with ⟨h1,h2⟩ | ⟨g,cap,cur,h1,_⟩
 ·exact ⟨none,0,by rw [h1,h2],fun j hj => by omega⟩
 ·subst h1
  refine ⟨some ⟨g,0,none⟩,cap,rfl,fun j hj => ⟨g,rfl,?_⟩⟩
  rw [h.cellAt j (by omega),List.getElem?_eq_getElem (by rw [strV_len]; exact hj)]
  unfold strV; rw [List.getElem_map]
end NmA
namespace NmT
open Go.RowKit
open ExM NmM Kit ExL ExP ExV NmC NmP NmR NmA
set_option linter.unusedVariables false
end NmT
end Go.Proofs.YtonlkmkfcaadlaaGreatDoor
