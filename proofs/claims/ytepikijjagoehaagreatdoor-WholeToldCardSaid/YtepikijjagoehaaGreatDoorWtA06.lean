/- ShFacts: what these laws name of them. -/
import Derived.RegionTactic
import Derived.BigQuiet
import Derived.Deep.QuietTactic
import Derived.Deep.RegionLaw
import Derived.Deep.CutBlock
import Derived.RangeFuncBox
import Derived.Deep.RegionHeld3
import Derived.Deep.AppendLies
import Derived.OwnWalk
import Derived.Deep.RegionWith
import Derived.BigRegion
import Derived.Laws.OwnMore
import Derived.Laws.Pointers
import Derived.Test.YtepikijjagoehaaGreatDoorChecked
import Derived.WalkKit
import Derived.ProofKit
import Derived.Lib.ConvBytes
import Derived.Lib.AtoiErrMem
import Derived.Laws.IdiomStrings
import Derived.WalkSpells
import Derived.WalkLawsBesides
import Derived.Outline
import Derived.Lib.Hide
import Derived.Deep.LoopGhost
import Derived.Below
import Derived.Deep.Draws
import GoSem.Claim
import Derived.Lib.Bytealg
import Derived.Lib.Small
import Derived.Lib.AtoiAll
import Derived.Test.YtepikijjagoehaaGreatDoorProg
import Derived.IntWalk
import Derived.ChangeAlike
import Derived.WalkSmall
import Derived.Maps.Own
import Derived.Maps.OwnSet
import Derived.Maps.RangeWalk
import Derived.StringKeys
import Derived.Test.YtepikijjagoehaaGreatDoorWtA05
namespace Go.Proofs.YtepikijjagoehaaGreatDoor
set_option linter.unusedVariables false
namespace ShF
open Go.RowKit Go.Maps
open ValM LexM NumM ExM TyM EvM Kit ExL RawV Within RawL GenL FldP EvF FcM SMp
set_option linter.unusedVariables false
theorem look_bool1 {W:World} {m n:Nat} {M:ByteArray->Option Value} (h:SM W m n M) (s:ByteArray) (hs:s.size<=maxLen) :
  (Instr.lookup 154 (.map (some m)) (.string s) false).run Tryz.prog W=.ok ((M s).getD (.bool false)) W:=h.look1 Tryz.underlying154 (by kernel_rfl) s hs
theorem put_bool {W:World} {m n:Nat} {M:ByteArray->Option Value} (h:SM W m n M) (s:ByteArray) (hs:s.size<=maxLen) (v:Value) (hn:n < maxLen) :
  ∃ w',(Instr.mapUpdate 154 (.map (some m)) (.string s) v).run Tryz.prog W=.ok () w'/\SM w' m (n + 1) (fun t => if t=s then some v else M t)/\W.grownBy w' (some m):=h.put Tryz.underlying154 s hs v hn
theorem look_flds {W:World} {m n:Nat} {M:ByteArray->Option Value} (h:SM W m n M) (s:ByteArray) (hs:s.size<=maxLen) :
  (Instr.lookup 152 (.map (some m)) (.string s) false).run Tryz.prog W=.ok ((M s).getD (.slice none 0 0)) W:=h.look1 Tryz.underlying152 (by kernel_rfl) s hs
theorem put_flds {W:World} {m n:Nat} {M:ByteArray->Option Value} (h:SM W m n M) (s:ByteArray) (hs:s.size<=maxLen) (v:Value) (hn:n < maxLen) :
  ∃ w',(Instr.mapUpdate 152 (.map (some m)) (.string s) v).run Tryz.prog W=.ok () w'/\SM w' m (n + 1) (fun t => if t=s then some v else M t)/\W.grownBy w' (some m):=h.put Tryz.underlying152 s hs v hn
theorem b_grown {B:Nat} {a w w':World} {m:Nat} (h:Below B a w) (hg:w.grownBy w' (some m)) (hB:B<=w.heap.size) (hm:B<=m):Below B a w':=h.grown hg hB (fun k e => by injection e with e; omega)
def fdBox (f:GenL.Fd):Obj:=.cells #[.string f.nm,.int .i64 f.kind,.int .i64 f.ty,.int .i64 f.d.op,.int .i64 f.d.k,.int .i64 f.d.n,.string f.d.s,.string f.d.nm,.slice f.A f.n f.c] 59
theorem fd_cells (w:World) (f:GenL.Fd) (V:World) (hV:Below (w.alloc (fdBox f)).heap.size (w.alloc (fdBox f)) V):V.cell? ⟨w.heap.size,0,none⟩=some (.string f.nm)/\V.cell? ⟨w.heap.size,1,none⟩=some (.int .i64 f.kind)/\V.cell? ⟨w.heap.size,2,none⟩=some (.int .i64 f.ty):=by
 have e1:V.heap[w.heap.size]?=_:=(hV.block _ (by simp)).trans (World.alloc_heap_new w (fdBox f))
 unfold fdBox at e1
 exact ⟨by simp [World.cell?,e1],by simp [World.cell?,e1],by simp [World.cell?,e1]⟩
set_option maxRecDepth 100000 in
set_option maxHeartbeats 4000000 in
theorem byName_any (fs:List GenL.Fd) (FA:Option Addr) (fc:Nat) (w:World) (hm:fs.length<=maxLen) (hc:fs.length<=fc/\fc<=maxLen) (hf:Flds w FA fs) (hz:∀ (k:Nat) (h:k < fs.length),fs[k].nm.size<=maxLen) :
  Calls Tryz.prog 105 #[.slice FA fs.length fc] w fun r w' => ∃ m,r=.returned (.map (some m))/\w.heap.size<=m/\SM w' m fs.length (byM fs FA fc fs.length)/\Below w.heap.size w w':=by
 have hmm:=@run_makeMap Tryz.prog
 obtain ⟨W1,hW1⟩:∃ V,w.alloc (.map #[] 0)=V:=⟨_,rfl⟩
 have hs0:SM W1 w.heap.size 0 (byM fs FA fc 0):=by rw [← hW1]; exact (SM.made w).to fun s => (byM_zero fs FA fc s).symm
 have hb1:Below w.heap.size w W1:=by rw [← hW1]; exact b_new w _
 have HS0:=Lib.hid hs0
 have HB1:=Lib.hid hb1
 have HW1:=Lib.hid hW1
 have HF:=Lib.hid hf
 have HZ:=Lib.hid hz
 obtain ⟨m,hmm2⟩:∃ m,w.heap.size=m:=⟨_,rfl⟩
 have hwm:w.heap.size<=m:=Nat.le_of_eq hmm2
 rw [hmm2] at HS0
 have HM:=Lib.hid hmm2
 have hfl:fs.length<=9223372036854775807:=Nat.le_trans hm (by unfold maxLen; decide)
 have hfcl:fc<=9223372036854775807:=Nat.le_trans hc.2 (by unfold maxLen; decide)
 have hcp:=hc.1
 have HMx:=Lib.hid hm
 clear hs0 hb1 hW1 hf hz hmm2 hm hc
 go_enter Tryz.func105,Tryz.ntmps105
 go_wp2_with fail
 rw [HW1.out,HM.out]
 go_loopw [4,5,9] (fun _ _ ii wr => ∃ k:Nat,ii=.int .i64 k/\k<=fs.length/\SM wr m k (byM fs FA fc k)/\Below w.heap.size w wr) (fun _ _ ii _ => fs.length - (intOf ii).toNat)
 case atStart => exact ⟨0,rfl,Nat.zero_le _,HS0.out,HB1.out⟩
 case round =>
  obtain ⟨k,rfl,hk,hsm,hb⟩:=hrel
  by_cases hlt:k < fs.length
  ·obtain ⟨ad,rfl,hat⟩:=HF.out.below hb k hlt
   have hnz:=HZ.out k hlt
   have hput:=fun h => byM_put (F:=fs) (some ad) fc hlt h
   have hskip:=fun h => byM_skip (F:=fs) (some ad) fc hlt h
   obtain ⟨f,hfk⟩:∃ f,fs[k]=f:=⟨_,rfl⟩
   rw [hfk] at hat hnz hput hskip
   obtain ⟨q0,q1,q2,q3,q4,q5,q6,q7,q8⟩:=hat
   obtain ⟨W5,hW5⟩:∃ V,wr.alloc (fdBox f)=V:=⟨_,rfl⟩
   obtain ⟨B9,hB9⟩:∃ B,wr.heap.size=B:=⟨_,rfl⟩
   have hb5:=b_new wr (fdBox f)
   have hcell:=fd_cells wr f
   rw [hW5,hB9] at hcell
   rw [hW5] at hb5
   obtain ⟨x0,_⟩:=hcell W5 (Below.refl _ _)
   obtain ⟨x0d,_⟩:=hcell W5.drew (b_drew (Below.refl _ _))
   have hsm5:=hsm.below hb5
   have hlk:=look_flds hsm5 f.nm hnz
   have hbw:=b_trans hb hb5
   by_cases hd:atF fs f.nm < k
   ·have hM:byM fs (some ad) fc k f.nm=some (.slice (some (ad.add (atF fs f.nm * 9))) 1 (fc - atF fs f.nm)):=by unfold byM; rw [if_pos hd]; rfl
    rw [hM] at hlk
    have hlk2:(Instr.lookup 152 (.map (some m)) (.string f.nm) false).run Tryz.prog W5=.ok (.slice (some (ad.add (atF fs f.nm * 9))) 1 (fc - atF fs f.nm)) W5:=hlk
    have HN:=Lib.hid (And.intro ((hsm5.to (hskip hd)).mono (Nat.le_succ _)) hbw)
    have HW5:=Lib.hid hW5
    have HB9:=Lib.hid hB9
    generalize fc - atF fs f.nm=c9 at hlk2
    generalize ad.add (atF fs f.nm * 9)=a9 at hlk2
    clear hsm hb hnz hput hskip hfk hb5 hcell hbw hW5 hB9 hlk hM hd hsm5 x0d
    unfold fdBox at HW5
    go_upto_region 5 with fail
    rw [HW5.out,HB9.out]
    go_wp2_with fail
    go_roundw
    case rel => exact ⟨k + 1,by go_num,by omega,HN.out.1,HN.out.2⟩
    case measure => simp [intOf]; omega
   ·have hM:byM fs (some ad) fc k f.nm=none:=by unfold byM; rw [if_neg hd]
    rw [hM] at hlk
    have hlk2:(Instr.lookup 152 (.map (some m)) (.string f.nm) false).run Tryz.prog W5=.ok (.slice none 0 0) W5:=hlk
    obtain ⟨w7,hput7,hs7,hg7⟩:=put_flds (hsm5.below (b_drew (Below.refl _ _))) f.nm hnz (.slice (some (ad.add (k * 9))) 1 (fc - k)) (by have:=HMx.out; omega)
    have hsl:∀ V:World,(Instr.sliceAt 22 (.slice (some ad) fs.length fc) (some (.int .i64 k)) (some (.int .i64 ((k:Int) + 1))) none).run Tryz.prog V=.ok (.slice (some (ad.add (k * 9))) 1 (fc - k)) V:=fun V => by
     have e1:((k:Int) + 1).toNat=k + 1:=by omega
     have e2:¬ (fs.length:Int) < (k:Int) + 1:=by omega
     have e3:¬ (fc:Int) < (k:Int) + 1:=by omega
     have e4:(k:Int)<=(k:Int) + 1:=by omega
     have e5:¬ fc=k:=by omega
     have e6:k<=fc:=by omega
     simp [go_sem,Tryz.underlying22,e1,e3,e4,e5]
     intro h
     omega
    have hkw:IntKind.i64.wrap ((k:Int) + 1)=(k:Int) + 1:=IntWalk.i64_in _ (by omega)
    have HN:=Lib.hid (And.intro (hs7.to (hput hd)) (b_grown (b_trans hbw (b_drew (Below.refl _ _))) hg7 (by have:=hbw.size; simpa using this) hwm))
    have HW5:=Lib.hid hW5
    have HB9:=Lib.hid hB9
    clear hsm hb hnz hput hskip hfk hb5 hcell hbw hW5 hB9 hlk hM hd hsm5 hs7 hg7
    unfold fdBox at HW5
    go_upto_region 5 with fail
    rw [HW5.out,HB9.out]
    go_wp2_with fail
    go_region
    go_wp2_with fail
    go_roundw
    case rel => exact ⟨k + 1,by go_num,by omega,HN.out.1,HN.out.2⟩
    case measure => simp [intOf]; omega
  ·have ek:k=fs.length:=by omega
   have HN:=Lib.hid (show SM wr m fs.length (byM fs FA fc fs.length)/\Below w.heap.size w wr from ⟨by rw [ek] at hsm; exact hsm,hb⟩)
   clear hsm hb ek
   go_wp2_with fail
   go_ret
   exact ⟨m,rfl,hwm,HN.out.1,HN.out.2⟩
theorem told_named (F:List GenL.Fd) (FA:Option Addr) (fc:Nat) (s:ByteArray) (w:World) (hf:Flds w FA F) (hm:F.length<=9223372036854775807) :
  ∃ (A:Option Addr) (n c:Nat),(byM F FA fc F.length s).getD (.slice none 0 0)=.slice A n c/\∀ (k m:Int) (t:ByteArray) (V:World),Below w.heap.size w V->Calls Tryz.prog 106 #[.slice A n c,.string s,.agg #[.int .i64 k,.int .i64 m,.string t]] V fun e w' => e=.returned (.int .i64 (toldE F s k m t))/\Below V.heap.size V w':=by
 by_cases h:atF F s < F.length
 ·obtain ⟨ad,rfl,hat⟩:=hf _ h
  refine ⟨some (ad.add (atF F s * 9)),1,fc - atF F s,by unfold byM; rw [if_pos h]; rfl,fun k m t V hV => ?_⟩
  have h1:Flds V (some (ad.add (atF F s * 9))) [F[atF F s]]:=fun i hi => by
   obtain rfl:i=0:=by simpa using hi
   refine ⟨_,rfl,?_⟩
   have e:(ad.add (atF F s * 9)).add (0 * 9)=ad.add (atF F s * 9):=by rw [Nat.zero_mul]; unfold Addr.add; rw [if_pos rfl]
   rw [e]
   exact hat.of_block (hV.block _ hat.lt)
  have:=told_any s k m t [F[atF F s]] (some (ad.add (atF F s * 9))) (fc - atF F s) V h1 (Nat.le_of_lt (show 1 < 9223372036854775807 by decide))
  rw [told_one k m t h] at this
  exact this
 ·refine ⟨none,0,0,by unfold byM; rw [if_neg h]; rfl,fun k m t V hV => ?_⟩
  have:=told_any s k m t [] none 0 V (fun i hi => absurd hi (by simp)) (by decide)
  rw [told_no k m t h] at this
  exact this
def fcBox (f:Fc):Obj:=.cells #[.string f.nm,.int .i64 f.kk,.int .i64 f.kn,.string f.ks,.int .i64 f.v.k,.int .i64 f.v.n,.string f.v.s] 71
theorem fc_cells (w:World) (f:Fc) (V:World) (hV:Below (w.alloc (fcBox f)).heap.size (w.alloc (fcBox f)) V):V.cell? ⟨w.heap.size,0,none⟩=some (.string f.nm)/\V.cell? ⟨w.heap.size,1,none⟩=some (.int .i64 f.kk)/\V.cell? ⟨w.heap.size,2,none⟩=some (.int .i64 f.kn)/\V.cell? ⟨w.heap.size,3,none⟩=some (.string f.ks)/\V.cell? ⟨w.heap.size,4,none⟩=some (.int .i64 f.v.k)/\V.cell? ⟨w.heap.size,5,none⟩=some (.int .i64 f.v.n)/\V.cell? ⟨w.heap.size,6,none⟩=some (.string f.v.s):=by
 have e1:V.heap[w.heap.size]?=_:=(hV.block _ (by simp)).trans (World.alloc_heap_new w (fcBox f))
 unfold fcBox at e1
 exact ⟨by simp [World.cell?,e1],by simp [World.cell?,e1],by simp [World.cell?,e1],by simp [World.cell?,e1],by simp [World.cell?,e1],by simp [World.cell?,e1],by simp [World.cell?,e1]⟩
theorem txt_nil {s:ByteArray} (h:s.toList=[]):s=⟨#[]⟩:=by
 rw [ByteArray.toList_eq] at h
 exact ByteArray.ext (Array.ext' h)
def frBox (FA:Option Addr) (n fc:Nat) (PA:Option Addr) (pn pc:Nat):Obj:=.cells #[.slice FA n fc,.slice PA pn pc] 25
theorem fr_cells (w:World) (FA:Option Addr) (n fc:Nat) (PA:Option Addr) (pn pc:Nat) (V:World) (hV:Below (w.alloc (frBox FA n fc PA pn pc)).heap.size (w.alloc (frBox FA n fc PA pn pc)) V):V.cell? ⟨w.heap.size,0,none⟩=some (.slice FA n fc)/\V.cell? ⟨w.heap.size,1,none⟩=some (.slice PA pn pc):=by
 have e1:V.heap[w.heap.size]?=_:=(hV.block _ (by simp)).trans (World.alloc_heap_new w (frBox FA n fc PA pn pc))
 unfold frBox at e1
 exact ⟨by simp [World.cell?,e1],by simp [World.cell?,e1]⟩
set_option maxRecDepth 100000 in
set_option maxHeartbeats 8000000 in
theorem facts_any (F:List GenL.Fd) (FA:Option Addr) (fc:Nat) (PA:Option Addr) (pn pc:Nat) (L:List Fc) (A:Option Addr) (c:Nat) (w:World) (hm:F.length<=maxLen) (hc:F.length<=fc/\fc<=maxLen) (hf:Flds w FA F) (hz:∀ (k:Nat) (h:k < F.length),F[k].nm.size<=maxLen) (hl:Fcs w A L) (hlz:∀ f ∈ L,f.nm.size<=maxLen) (hln:L.length<=maxLen) :
  Calls Tryz.prog 56 #[.agg #[.slice FA F.length fc,.slice PA pn pc],.slice A L.length c] w fun r w' => r=.returned (.int .i64 (factsE F L))/\Below w.heap.size w w':=by
 have hmm:=@run_makeMap Tryz.prog
 obtain ⟨W1,hW1⟩:∃ V,w.alloc (frBox FA F.length fc PA pn pc)=V:=⟨_,rfl⟩
 obtain ⟨B1,hB1⟩:∃ B,w.heap.size=B:=⟨_,rfl⟩
 have hb1:=b_new w (frBox FA F.length fc PA pn pc)
 have hcell:=fr_cells w FA F.length fc PA pn pc
 rw [hW1] at hb1 hcell
 have hbn:=byName_any F FA fc W1 hm hc (hf.below hb1) hz
 obtain ⟨x0,x1⟩:=hcell W1 (Below.refl _ _)
 rw [hB1] at x0 x1
 obtain ⟨R,hR⟩:∃ R,factsE F L=R:=⟨_,rfl⟩
 rw [hR]
 have hstop:∀ k,k < L.length->(∀ j,j < k->factE F L j=0)->factE F L k ≠ 0->R=factE F L k:=fun k hk h h0 => by rw [← hR]; exact facts_stop hk h h0
 have hall:(∀ j,j < L.length->factE F L j=0)->R=0:=fun h => by rw [← hR]; exact facts_all h
 have hll:L.length<=9223372036854775807:=Nat.le_trans hln (by unfold maxLen; decide)
 have HBn:=Lib.hid hbn
 have HStop:=Lib.hid hstop
 have HAll:=Lib.hid hall
 have HF:=Lib.hid hf
 have HL:=Lib.hid hl
 have HLz:=Lib.hid hlz
 have HLn:=Lib.hid hln
 have HM:=Lib.hid hm
 have HW1:=Lib.hid hW1
 have HB1:=Lib.hid hB1
 have Hb1:=Lib.hid hb1
 clear hbn hstop hall hf hl hlz hln hm hc hz hW1 hB1 hb1 hcell hR
 unfold frBox at HW1
 go_enter Tryz.func56,Tryz.ntmps56
 go_upto_region 1 with fail
 rw [HW1.out,HB1.out]
 go_wp2_with fail
 refine HBn.out.mono ?_; rintro r w2 ⟨m1,rfl,hm1,hsm1,hb2⟩
 have hbw2:=b_trans Hb1.out hb2
 obtain ⟨W3,hW3⟩:∃ V,w2.alloc (.map #[] 0)=V:=⟨_,rfl⟩
 obtain ⟨m2,hm2⟩:∃ m,w2.heap.size=m:=⟨_,rfl⟩
 have hb3:=b_new w2 (.map #[] 0)
 have hsm2:SM W3 m2 0 (toldM L 0):=by rw [← hW3,← hm2]; exact (SM.made w2).to fun s => (toldM_zero L s).symm
 rw [hW3] at hb3
 have hsm1':=hsm1.below hb3
 have hne:m1 ≠ m2:=by have:=hsm1.lt; omega
 have hge:w.heap.size<=m2:=by have:=hbw2.size; omega
 have HSt:=Lib.hid (And.intro hsm1' (And.intro hsm2 (b_trans hbw2 hb3)))
 have HW3:=Lib.hid hW3
 have HM2:=Lib.hid hm2
 clear hm1 hsm1 hb2 hbw2 hb3 hsm2 hsm1' hW3 hm2
 go_upto_region 2 with fail
 rw [HW3.out,HM2.out]
 go_wp2_with fail
 go_loopw [8,9,16] (fun _ _ ii wr => ∃ k:Nat,ii=.int .i64 k/\k<=L.length/\(∀ j,j < k->factE F L j=0)/\SM wr m1 F.length (byM F FA fc F.length)/\SM wr m2 k (toldM L k)/\Below w.heap.size w wr) (fun _ _ ii _ => L.length - (intOf ii).toNat)
 case atStart => exact ⟨0,rfl,Nat.zero_le _,fun j hj => absurd hj (by omega),HSt.out.1,HSt.out.2.1,HSt.out.2.2⟩
 case round =>
  obtain ⟨k,rfl,hk,hzr,hs1,hs2,hb⟩:=hrel
  obtain ⟨wa,rfl⟩:∃ V,V=wr:=⟨_,rfl⟩
  by_cases hlt:k < L.length
  ·obtain ⟨ad,rfl,hat⟩:=HL.out.below hb k hlt
   have hnz:=HLz.out L[k] (List.getElem_mem hlt)
   have hput:=toldM_put hlt
   have hfe:factE F L k=(if toldE F L[k].nm L[k].v.k L[k].v.n L[k].v.s=0 then (if keyZ L[k]=true then (if metB L k L[k].nm=true then 6 else 0) else 3) else toldE F L[k].nm L[k].v.k L[k].v.n L[k].v.s):=by unfold factE; rw [dif_pos hlt]
   have hstop:=HStop.out k hlt hzr
   have hnext:factE F L k=0->∀ j,j < k + 1->factE F L j=0:=fun e j hj => by
    by_cases h:j=k
    ·subst h; exact e
    ·exact hzr j (by omega)
   obtain ⟨f,hfk⟩:∃ f,L[k]=f:=⟨_,rfl⟩
   rw [hfk] at hat hnz hput hfe
   obtain ⟨q0,q1,q2,q3,q4,q5,q6⟩:=hat
   obtain ⟨W5,hW5⟩:∃ V,wa.alloc (fcBox f)=V:=⟨_,rfl⟩
   obtain ⟨B9,hB9⟩:∃ B,wa.heap.size=B:=⟨_,rfl⟩
   have hb5:=b_new wa (fcBox f)
   have hcell:=fc_cells wa f
   rw [hW5,hB9] at hcell
   rw [hW5] at hb5
   obtain ⟨x0,x1,x2,x3,x4,x5,x6⟩:=hcell W5 (Below.refl _ _)
   have hbw5:=b_trans hb hb5
   have hs15:=hs1.below hb5
   have hs25:=hs2.below hb5
   obtain ⟨A2,n2,c2,hv,htold⟩:=told_named F FA fc f.nm w HF.out (Nat.le_trans HM.out (by unfold maxLen; decide))
   have hlk:=look_flds hs15 f.nm hnz
   rw [hv] at hlk
   have htold5:=htold f.v.k f.v.n f.v.s W5 hbw5
   generalize toldE F f.nm f.v.k f.v.n f.v.s=T at htold5 hfe
   have HT:=Lib.hid htold5
   have HCell:=Lib.hid hcell
   have HSt5:=Lib.hid (And.intro hs15 (And.intro hs25 hbw5))
   have HPut:=Lib.hid hput
   have HFe:=Lib.hid hfe
   have HStop2:=Lib.hid hstop
   have HNx:=Lib.hid hnext
   have HW5:=Lib.hid hW5
   have HB9:=Lib.hid hB9
   have HNz:=Lib.hid hnz
   clear htold5 htold hv hcell hs15 hs25 hbw5 hb5 hput hfe hstop hnext hW5 hB9 hnz hs1 hs2 hb hzr hfk
   unfold fcBox at HW5
   go_upto_region 5 with fail
   rw [HW5.out,HB9.out]
   go_wp2_with fail
   refine HT.out.mono ?_; rintro r w6 ⟨rfl,hb6⟩
   obtain ⟨x0,x1,x2,x3,x4,x5,x6⟩:=HCell.out w6 hb6
   have hs26:=HSt5.out.2.1.below hb6
   have hlk6:=look_bool1 hs26 f.nm HNz.out
   rw [toldM_get] at hlk6
   have HS6:=Lib.hid (And.intro (HSt5.out.1.below hb6) (And.intro hs26 (b_trans HSt5.out.2.2 hb6)))
   clear hb6 hs26
   by_cases h0:T=0
   ·subst h0
    have hfe2:factE F L k=(if keyZ f=true then (if metB L k f.nm=true then 6 else 0) else 3):=HFe.out.trans (if_pos rfl)
    by_cases hkey:keyZ f=true
    ·rw [if_pos hkey] at hfe2
     have hkk:f.kk=0/\f.kn=0/\f.ks=⟨#[]⟩:=by
      unfold keyZ at hkey
      simp only [Bool.and_eq_true,decide_eq_true_eq] at hkey
      exact ⟨hkey.1.1,hkey.1.2,hkey.2⟩
     obtain ⟨hk1,hk2,hk3⟩:=hkk
     rw [hk1] at x1
     rw [hk2] at x2
     rw [hk3] at x3
     cases hmet:metB L k f.nm with
     | true =>
      rw [hmet] at hlk6 hfe2
      have h6:factE F L k=6:=hfe2.trans (if_pos rfl)
      obtain rfl:=(HStop2.out (by rw [h6]; decide)).trans h6
      clear h6 hfe2 hmet hkey hk1 hk2 hk3
      go_wp2_with fail
      go_ret
      exact ⟨rfl,HS6.out.2.2⟩
     | false =>
      rw [hmet] at hlk6 hfe2
      have h6:factE F L k=0:=hfe2.trans (if_neg (by decide))
      obtain ⟨w7,hput7,hs7,hg7⟩:=put_bool HS6.out.2.1 f.nm HNz.out (.bool true) (by have:=HLn.out; omega)
      have HN:=Lib.hid (And.intro (HNx.out h6) (And.intro (HS6.out.1.kept hg7 (by intro e; injection e with e; exact hne e)) (And.intro (hs7.to HPut.out) (b_grown HS6.out.2.2 hg7 HS6.out.2.2.size hge))))
      clear h6 hfe2 hmet hkey hk1 hk2 hk3 hs7 hg7
      go_wp2_with fail
      go_roundw
      case rel => exact ⟨k + 1,by go_num,by omega,HN.out.1,HN.out.2.1,HN.out.2.2.1,HN.out.2.2.2⟩
      case measure => simp [intOf]; omega
    ·rw [if_neg hkey] at hfe2
     obtain rfl:=(HStop2.out (by rw [hfe2]; decide)).trans hfe2
     have hno:f.kk=0->f.kn=0->f.ks.toList=[]->False:=fun a b c => hkey (by unfold keyZ; rw [a,b,txt_nil c]; rfl)
     have HNo:=Lib.hid hno
     clear hfe2 hno hkey HFe HNx HStop2 hlk6
     go_wp2_with fail
     all_goals first
      | (exfalso; exact HNo.out (by assumption) (by assumption) (by assumption))
      | (go_ret; exact ⟨rfl,HS6.out.2.2⟩)
      | (fail)
   ·have hfe2:factE F L k=T:=HFe.out.trans (if_neg h0)
    have t1:(T != 0)=true:=bne_iff_ne.2 h0
    obtain rfl:=(HStop2.out (by rw [hfe2]; exact h0)).trans hfe2
    clear hfe2 HFe HNx HStop2 h0
    go_wp2_with fail
    go_ret
    exact ⟨rfl,HS6.out.2.2⟩
  ·have e0:=HAll.out fun j hj => hzr j (by omega)
   subst e0
   have HB:=Lib.hid hb
   clear hb hs1 hs2 hzr
   go_wp2_with fail
   go_ret
   exact ⟨rfl,HB.out⟩
end ShF
end Go.Proofs.YtepikijjagoehaaGreatDoor
