/- NmCopy Ty WhTy FctBase FctMath WhMath: what these laws name of them. -/
import Derived.Maps.Own
import Derived.Maps.OwnSet
import Derived.Maps.AppendAt
import Derived.Maps.Range
import Derived.Maps.RangeWalk
import Derived.Test.YtonlkmkfcaadlaaGreatDoorKw04
namespace Go.Proofs.YtonlkmkfcaadlaaGreatDoor
set_option linter.unusedVariables false
namespace NmC
open Go.RowKit
open ExM NmM Kit ExL ExP ExV
set_option linter.unusedVariables false
theorem set_app {α:Type} (xs r:List α) (j i:Nat) (h:i=xs.length + j) (v:α):(xs ++ r).set i v=xs ++ r.set j v:=by
 subst h; rw [List.set_append_right _ _ (by omega)]; congr 2; omega
end NmC
namespace Ty
open Go.RowKit
open ExM Kit ExL GenL TyM
set_option linter.unusedVariables false
theorem settled_any (k last:Int) (w:World):Calls Tryz.prog 198 #[.int .i64 k,.int .i64 last] w fun e w' => e=.returned (.int .i64 (settl k last))/\w'=w:=by
 by_cases h:k=0
 ·subst h
  go_enter Tryz.func198,Tryz.ntmps198
  go_wp2
  go_ret
  exact ⟨rfl,rfl⟩
 ·have t1:(k == 0)=false:=beq_eq_false_iff_ne.2 h
  rw [show settl k last=k from if_neg h]
  go_enter Tryz.func198,Tryz.ntmps198
  go_wp2
  go_ret
  exact ⟨rfl,rfl⟩
theorem still_drawn {P:Program} {f:FuncId} {args:Array Value} {w:World} {i j:Nat} {v:Value} (c:∀ W,Calls P f args W fun e w' => e=.returned v/\w'=W) :
  Calls P f args (w.drewN (i + j)) fun e w' => e=.returned v/\∃ k,w'=w.drewN (i + k):=(c _).mono fun _ _ h => ⟨h.1,j,h.2⟩
def IntsAt (w:World) (b:Nat) (l:List Int):Prop:=∀ i,i < l.length->w.cell? ⟨b,i,none⟩=some (.int .i64 (l.getD i 0))
theorem IntsAt.below {w w':World} {b:Nat} {l:List Int} (h:IntsAt w b l) (hb:Below w.heap.size w w'):IntsAt w' b l:=fun i hi =>
 (hb.cell (p:=⟨b,i,none⟩) (cell_lt' (h i hi))).trans (h i hi)
set_option maxHeartbeats 1000000 in
theorem apply_any (req ts:List Int) (res:Int) (rb tb rc tc:Nat) (w:World) (hr:IntsAt w rb req) (ht:IntsAt w tb ts) (hle:req.length<=ts.length) (hpos:1<=ts.length) (hmax:ts.length<=1000) :
  Calls Tryz.prog 181 #[.agg #[.slice (some ⟨rb,0,none⟩) req.length rc,.int .i64 res],.slice (some ⟨tb,0,none⟩) ts.length tc] w fun e w' => e=.returned (.tuple #[.int .i64 (applyR req res ts).1,.int .i64 (applyR req res ts).2])/\Below w.heap.size w w':=by
 obtain ⟨last,hlast⟩:∃ a,lastT ts=a:=⟨_,rfl⟩
 obtain ⟨M,hM⟩:∃ M,ts.length=M + 1:=⟨ts.length - 1,by omega⟩
 obtain ⟨N,hN⟩:∃ N,req.length=N:=⟨_,rfl⟩
 have hl:=ht M (by omega)
 have e1:ts.getD M 0=last:=by rw [← hlast]; unfold lastT; rw [hM]; rfl
 rw [e1] at hl
 have hgood:(∀ i,i < N->ts.getD i 0=settl (req.getD i 0) last)->applyR req res ts=(settl res last,0):=fun h => by
  unfold applyR; rw [if_pos (by unfold fitsR; rw [hN,hlast]; exact h),hlast]
 have hbad:∀ i,i < N->ts.getD i 0 ≠ settl (req.getD i 0) last->applyR req res ts=(0,9):=fun i hi h => by
  unfold applyR; rw [if_neg (by unfold fitsR; rw [hN,hlast]; exact fun g => h (g i hi))]
 rw [hM] at hle hmax
 rw [hN] at hle
 obtain ⟨R,hR⟩:∃ R,applyR req res ts=R:=⟨_,rfl⟩
 rw [hR] at hgood hbad ⊢
 rw [hM,hN]
 have hr2:∀ i,i < N->w.cell? ⟨rb,i,none⟩=some (.int .i64 (req.getD i 0)):=fun i hi => hr i (by omega)
 have ht2:∀ i,i < N->w.cell? ⟨tb,i,none⟩=some (.int .i64 (ts.getD i 0)):=fun i hi => ht i (by omega)
 have hi1:((M + 1:Nat):Int) - 1=(M:Int):=by omega
 have hw:IntKind.i64.wrap (((M + 1:Nat):Int) - 1)=(M:Int):=by rw [hi1]; exact IntWalk.i64_in _ (by omega)
 have HG:=Lib.hid hgood
 have HB:=Lib.hid hbad
 have HR2:=Lib.hid hr2
 have HT2:=Lib.hid ht2
 have htl:tb < w.heap.size:=cell_lt' hl
 clear hgood hbad hr2 ht2 hr ht hR hM hN hlast e1 hpos
 go_enter Tryz.func181,Tryz.ntmps181
 go_wp2_with fail
 go_loopw [7,8,18] (fun _ _ i wr => ∃ (k m:Nat),i=.int .i64 k/\k<=N/\(∀ j,j < k->ts.getD j 0=settl (req.getD j 0) last)/\wr=(w.alloc (.cells #[.slice (some ⟨rb,0,none⟩) N rc,.int .i64 res] 218)).drewN m) (fun _ _ i _ => N - (intOf i).toNat)
 case atStart => exact ⟨0,0,rfl,Nat.zero_le _,fun j hj => absurd hj (by omega),rfl⟩
 case round =>
  obtain ⟨k,m,rfl,hk,hall,rfl⟩:=hrel
  have hbw:=b_drewN (b_new w (.cells #[.slice (some ⟨rb,0,none⟩) N rc,.int .i64 res] 218)) m
  by_cases hlt:k < N
  ·have h1:=hbw.cell (p:=⟨rb,k,none⟩) (cell_lt' (HR2.out k hlt))
   rw [HR2.out k hlt] at h1
   have h2:=hbw.cell (p:=⟨tb,k,none⟩) (cell_lt' (HT2.out k hlt))
   rw [HT2.out k hlt] at h2
   obtain ⟨x,hx⟩:∃ a,ts.getD k 0=a:=⟨_,rfl⟩
   obtain ⟨y,hy⟩:∃ a,req.getD k 0=a:=⟨_,rfl⟩
   obtain ⟨z,hz⟩:∃ a,settl y last=a:=⟨_,rfl⟩
   have hc:=fun W => settled_any y last W
   rw [hx] at h2
   rw [hy] at h1
   rw [hz] at hc
   have hb:=HB.out k hlt
   rw [hx,hy,hz] at hb
   have hnext:x=z->∀ j,j < k + 1->ts.getD j 0=settl (req.getD j 0) last:=fun e j hj => by
    rcases Nat.lt_or_ge j k with h | h
    ·exact hall j h
    ·obtain rfl:j=k:=by omega
     rw [hx,hy,hz]; exact e
   have HC:=Lib.hid hc
   have HN:=Lib.hid hnext
   have HB2:=Lib.hid hb
   have HBW:=Lib.hid hbw
   have h3:=HT2.out k hlt
   rw [hx] at h3
   clear hc hnext hb hx hy hz hall hbw
   have hkM:(k:Int) < (M:Int) + 1:=by omega
   by_cases hxz:x=z
   ·subst hxz
    go_wp2_with fail
    go_quiet ((go_at_call 198; exact still_drawn HC.out))
    go_wp2_with fail
    go_roundw
    case rel => exact ⟨k + 1,_,by go_num,by omega,(by first | exact HN.out rfl | exact HN.out trivial),rfl⟩
    case measure => simp [intOf]; omega
   ·have t1:(x == z)=false:=beq_eq_false_iff_ne.2 hxz
    obtain rfl:=HB2.out hxz
    go_wp2_with fail
    go_quiet ((go_at_call 198; exact still_drawn HC.out))
    go_wp2_with fail
    go_ret2
    exact ⟨rfl,b_drewN (b_new w _) _⟩
  ·obtain rfl:k=N:=by omega
   have hg:=HG.out hall
   subst hg
   have hc:=fun W => settled_any res last W
   have HC:=Lib.hid hc
   have HBW:=Lib.hid hbw
   clear hc hall hbw
   go_wp2_with fail
   refine (HC.out _).mono ?_; rintro e w2 ⟨rfl,rfl⟩
   go_wp2_with fail
   go_ret2
   exact ⟨rfl,b_drewN (b_new w _) _⟩
def fts (fs:List GenL.Fd):List (ByteArray × Int):=fs.map fun f => (f.nm,f.ty)
theorem fts_len (fs:List GenL.Fd):(fts fs).length=fs.length:=by unfold fts; rw [List.length_map]
theorem fts_at (fs:List GenL.Fd) (k:Nat) (h:k < fs.length) (g:k < (fts fs).length):(fts fs)[k]=(fs[k].nm,fs[k].ty):=by simp only [fts,List.getElem_map]
theorem fieldT_fts {fs:List GenL.Fd} {s:ByteArray} {k:Nat} (hk:k < fs.length) (h:∀ j (hj:j < fs.length),j < k->fs[j].nm ≠ s) (he:fs[k].nm=s):fieldT (fts fs) s=(fs[k].ty,0):=by
 rw [fieldT_hit (fts fs) s k (by rw [fts_len]; exact hk) (fun j hj hjk => by rw [fts_len] at hj; rw [fts_at fs j hj]; exact h j hj hjk) (by rw [fts_at fs k hk]; exact he),fts_at fs k hk]
theorem fieldT_fts_none {fs:List GenL.Fd} {s:ByteArray} (h:∀ j (hj:j < fs.length),fs[j].nm ≠ s):fieldT (fts fs) s=(0,5) :=
 fieldT_none _ _ fun j hj => by rw [fts_len] at hj; rw [fts_at fs j hj]; exact h j hj
set_option maxHeartbeats 1000000 in
theorem field_any (s:ByteArray) (fs:List GenL.Fd) (FA:Option Addr) (fc:Nat) (w:World) (hf:Flds w FA fs) (hm:fs.length<=1000000000000) :
  Calls Tryz.prog 180 #[.string s,.slice FA fs.length fc] w fun e w' => e=.returned (.tuple #[.int .i64 (fieldT (fts fs) s).1,.int .i64 (fieldT (fts fs) s).2])/\w'=w:=by
 obtain ⟨R,hR⟩:∃ R,fieldT (fts fs) s=R:=⟨_,rfl⟩
 have hgood:=fun k hk h he => (fieldT_fts (fs:=fs) (s:=s) (k:=k) hk h he).symm.trans hR
 have hbad:=fun h => (fieldT_fts_none (fs:=fs) (s:=s) h).symm.trans hR
 rw [hR]
 have HG:=Lib.hid hgood
 have HB:=Lib.hid hbad
 have HF:=Lib.hid hf
 clear hgood hbad hR hf
 go_enter Tryz.func180,Tryz.ntmps180
 go_wp2_with fail
 go_loopw [6,9] (fun _ i wr => ∃ (k:Nat),i=.int .i64 k/\k<=fs.length/\(∀ j (hj:j < fs.length),j < k->fs[j].nm ≠ s)/\wr=w) (fun _ i _ => fs.length - (intOf i).toNat)
 case atStart => exact ⟨0,rfl,Nat.zero_le _,fun j hj hjk => absurd hjk (by omega),rfl⟩
 case round =>
  obtain ⟨k,rfl,hk,hall,rfl⟩:=hrel
  by_cases hlt:k < fs.length
  ·obtain ⟨a,rfl,h0,h1,h2,h3⟩:=HF.out k hlt
   have hg:=HG.out k hlt hall
   have hnext:fs[k].nm ≠ s->∀ j (hj:j < fs.length),j < k + 1->fs[j].nm ≠ s:=fun e j hj hjk => by
    rcases Nat.lt_or_ge j k with h | h
    ·exact hall j hj h
    ·obtain rfl:j=k:=by omega
     exact e
   obtain ⟨nm,hnm⟩:∃ a,fs[k].nm=a:=⟨_,rfl⟩
   obtain ⟨ty,hty⟩:∃ a,fs[k].ty=a:=⟨_,rfl⟩
   rw [hnm] at hg hnext h0
   rw [hty] at hg h2
   have HG2:=Lib.hid hg
   have HN:=Lib.hid hnext
   clear hg hnext hall hnm hty h3 h1
   by_cases he:nm=s
   ·obtain rfl:=HG2.out he
    have t1:(nm.toList == s.toList)=true:=by rw [ByteArray.toList_eq,ByteArray.toList_eq,he]; simp
    go_wp2_with fail
    go_ret2
    exact ⟨rfl,rfl⟩
   ·have t1:(nm.toList == s.toList)=false:=beq_eq_false_iff_ne.2 fun e => he (by
     rw [ByteArray.toList_eq,ByteArray.toList_eq] at e
     exact ByteArray.ext (Array.ext' e))
    go_wp2_with fail
    go_roundw
    case rel => exact ⟨k + 1,by go_num,by omega,HN.out he,by first | rfl | trivial⟩
    case measure => simp [intOf]; omega
  ·obtain rfl:=HB.out fun j hj => hall j hj (by omega)
   clear hall
   go_wp2_with fail
   go_ret2
   exact ⟨rfl,rfl⟩
end Ty
namespace TyT
open Go.RowKit Go.Maps
open ExM Kit ExL GenL TyM Ty
set_option linter.unusedVariables false
def hv (v:Value):Option (DataW Value × List MemPlace):=some (.held v,[])
theorem intKeyed:Keyed Tryz.prog 3:=int_keyed Tryz.underlying3
theorem keyI {a:Int} (h:(Lit.int .i64 a).wf=true):keyOf Tryz.prog 3 (.int .i64 a)=some (.int .i64 a):=keyOf_int_mk Tryz.underlying3 h
def ruleV (b c:Nat) (op:Int):Value:=.agg #[.slice (some ⟨b,0,none⟩) (ruleReq op).length c,.int .i64 (ruleRes op)]
theorem ints_grown {W W':World} {m b:Nat} {l:List Int} (h:IntsAt W b l) (hg:W.grownBy W' (some m)) (hne:b ≠ m):IntsAt W' b l:=fun i hi =>
 hg.cell (h i hi) (fun e => hne (by injection e))
theorem ints_new (w:World) (l:List Int) (t:TypeId):IntsAt (w.alloc (.cells (l.map (Value.int .i64)).toArray t)) w.heap.size l:=fun i hi => by
 have h:=World.alloc_heap_new w (.cells (l.map (Value.int .i64)).toArray t)
 unfold World.cell?
 rw [h]
 simp [hi]
theorem grown_alloc {W0 W:World} {m:Nat} (h:W0.grownBy W (some m)) (o:Obj):W0.grownBy (W.alloc o) (some m):=h.trans ((World.grownBy_alloc W o none).but (some m))
structure Part (W0 W:World) (m n:Nat) (ops:List Int):Prop where
 grown:W0.grownBy W (some m)
 own:∃ D,W.ownsMap Tryz.prog 3 hv m n D/\∀ op ∈ ops,∃ b c,b ≠ m/\D.atKey (.int .i64 op) .nil=.held (ruleV b c op)/\IntsAt W b (ruleReq op)
theorem Part.made (w:World):Part (w.alloc (.map #[] 0)) (w.alloc (.map #[] 0)) w.heap.size 0 [] :=
 ⟨World.grownBy.refl _ _,_,World.ownsMap_made w _ _ _,fun op h => absurd h (by simp)⟩
theorem Part.alloc {W0 W:World} {m n:Nat} {ops:List Int} (h:Part W0 W m n ops) (o:Obj):Part W0 (W.alloc o) m n ops:=by
 obtain ⟨hg,D,hD,hall⟩:=h
 refine ⟨grown_alloc hg o,D,hD.alloc o,fun op hop => ?_⟩
 obtain ⟨b,c,h1,h2,h3⟩:=hall op hop
 exact ⟨b,c,h1,h2,h3.below (b_new _ _)⟩
theorem Part.put {W0 W W':World} {m n:Nat} {ops:List Int} {D:DataW Value} {op:Int} {b c:Nat} (h:Part W0 W m n ops) (hD:W.ownsMap Tryz.prog 3 hv m n D) (hall:∀ op ∈ ops,∃ b c,b ≠ m/\D.atKey (.int .i64 op) .nil=.held (ruleV b c op)/\IntsAt W b (ruleReq op))
  (hown:W'.ownsMap Tryz.prog 3 hv m (n + 1) (D.put (.int .i64 op) (.held (ruleV b c op)))) (hg:W.grownBy W' (some m)) (hw:(Lit.int .i64 op).wf=true) (hnew:op ∉ ops) (hb:b ≠ m) (hI:IntsAt W b (ruleReq op)):Part W0 W' m (n + 1) (op :: ops):=by
 refine ⟨h.grown.trans hg,_,hown,fun op' hop => ?_⟩
 by_cases he:op'=op
 ·subst he
  exact ⟨b,c,hb,atKey_put_same hD.isMap (by trivial) _ _,ints_grown hI hg hb⟩
 ·obtain ⟨b',c',h1,h2,h3⟩:=hall op' ((List.mem_cons.1 hop).resolve_left he)
  exact ⟨b',c',h1,by rw [atKey_put_other (fun e => he (by injection e))]; exact h2,ints_grown h3 hg h1⟩
theorem run_rule {W0 W:World} {m n:Nat} {os:List Int} (h:Part W0 W m n os) (hn:n < maxLen) (op:Int) (b c len:Nat) (res:Int) (req:List Int) (hreq:ruleReq op=req) (hlen:req.length=len) (hres:ruleRes op=res)
  (hw:(Lit.int .i64 op).wf=true) (hnew:op ∉ os) (hb:b ≠ m) (hI:IntsAt W b req) :
  ∃ w',(Instr.mapUpdate 204 (.map (some m)) (.int .i64 op) (.agg #[.slice (some ⟨b,0,none⟩) len c,.int .i64 res])).run Tryz.prog W=.ok () w'/\Part W0 w' m (n + 1) (op :: os):=by
 obtain ⟨D,hD,hall⟩:=h.own
 subst hreq hlen hres
 obtain ⟨w',hrun,r1,r2⟩:=hD.update intKeyed Tryz.underlying204 hn (keyI hw) (val:=ruleV b c op) (d:=.held (ruleV b c op)) (ps:=[]) rfl
 exact ⟨w',hrun,h.put hD hall r1 r2 hw hnew hb hI⟩
def Rules (W:World) (m:Nat):Prop:=∃ n D,W.ownsMap Tryz.prog 3 hv m n D/\∀ op:Int,3<=op->op<=18->∃ b c,D.atKey (.int .i64 op) .nil=.held (ruleV b c op)/\IntsAt W b (ruleReq op)
theorem Rules.below {W W':World} {m:Nat} (h:Rules W m) (hb:Below W.heap.size W W'):Rules W' m:=by
 obtain ⟨n,D,hD,hall⟩:=h
 have hg:W.grownBy W' none:=⟨hb.os,hb.tape,hb.output,hb.size,fun k hk _ => hb.block k hk⟩
 refine ⟨n,D,hD.kept hg (by simp),fun op h1 h2 => ?_⟩
 obtain ⟨b,c,h3,h4⟩:=hall op h1 h2
 exact ⟨b,c,h3,h4.below hb⟩
set_option maxRecDepth 100000 in
theorem Rules.look {W:World} {m:Nat} (h:Rules W m) {op:Int} (h1:3<=op) (h2:op<=18):∃ b c,(Instr.lookup 204 (.map (some m)) (.int .i64 op) false).run Tryz.prog W=.ok (.agg #[.slice (some ⟨b,0,none⟩) (ruleReq op).length c,.int .i64 (ruleRes op)]) W/\IntsAt W b (ruleReq op):=by
 obtain ⟨n,D,hD,hall⟩:=h
 obtain ⟨b,c,h3,h4⟩:=hall op h1 h2
 have hw:(Lit.int .i64 op).wf=true:=WalkArith.wf_i64 (by omega)
 obtain ⟨es,clock,hb,F,_,rfl⟩:=hD
 rcases Maps.fit_look false intKeyed Tryz.underlying204 (z:=.agg #[.slice none 0 0,.int .i64 0]) (by kernel_rfl) hb F (keyI hw) with ⟨hrun,_,hat⟩ | ⟨e0,y,_,_,hrun,hRv,hat,_⟩
 ·have:=hat .nil
  rw [h3] at this; cases this
 ·have:=hat .nil
  rw [h3] at this
  have hy:y=(.held (e0.val),[]):=by
   have:hv e0.val=some y:=hRv
   unfold hv at this; injection this with this; exact this.symm
  subst hy
  have h6:DataW.held (ruleV b c op)=DataW.held e0.val:=this
  injection h6 with h5
  exact ⟨b,c,by rw [hrun,← h5]; rfl,h4⟩
set_option maxRecDepth 100000 in
set_option maxHeartbeats 4000000 in
theorem rules_any (w:World):Calls Tryz.prog 160 #[] w fun e w' => (∃ m,e=.returned (.map (some m))/\Rules w' m)/\Below w.heap.size w w':=by
 obtain ⟨V6,hV6⟩:∃ V,((((((w.alloc (.cells #[.int .i64 1,.int .i64 1] 3)).alloc (.cells #[.slice (some ⟨w.heap.size,0,none⟩) 2 2,.int .i64 1] 218)).alloc (.cells #[.int .i64 2,.int .i64 2] 3)).alloc (.cells #[.slice (some ⟨w.heap.size + 1 + 1,0,none⟩) 2 2,.int .i64 2] 218)).alloc (.cells #[.int .i64 0,.int .i64 0] 3)).alloc (.cells #[.slice (some ⟨w.heap.size + 1 + 1 + 1 + 1,0,none⟩) 2 2,.int .i64 2] 218))=V:=⟨_,rfl⟩
 have hB6:Below w.heap.size w V6:=by rw [← hV6]; exact b_more (b_more (b_more (b_more (b_more (b_new _ _) _) _) _) _) _
 have hs6:V6.heap.size=w.heap.size + 1 + 1 + 1 + 1 + 1 + 1:=by rw [← hV6]; simp
 have i1:IntsAt V6 (w.heap.size) [1,1]:=by
  rw [← hV6]; exact (((((ints_new w [1,1] 3).below (b_new _ _)).below (b_new _ _)).below (b_new _ _)).below (b_new _ _)).below (b_new _ _)
 have i2:IntsAt V6 (w.heap.size + 1 + 1) [2,2]:=by
  rw [← hV6]
  have:=ints_new ((w.alloc (.cells #[.int .i64 1,.int .i64 1] 3)).alloc (.cells #[.slice (some ⟨w.heap.size,0,none⟩) 2 2,.int .i64 1] 218)) [2,2] 3
  simp only [World.size_alloc] at this
  exact ((this.below (b_new _ _)).below (b_new _ _)).below (b_new _ _)
 have i3:IntsAt V6 (w.heap.size + 1 + 1 + 1 + 1) [0,0]:=by
  rw [← hV6]
  have:=ints_new ((((w.alloc (.cells #[.int .i64 1,.int .i64 1] 3)).alloc (.cells #[.slice (some ⟨w.heap.size,0,none⟩) 2 2,.int .i64 1] 218)).alloc (.cells #[.int .i64 2,.int .i64 2] 3)).alloc (.cells #[.slice (some ⟨w.heap.size + 1 + 1,0,none⟩) 2 2,.int .i64 2] 218)) [0,0] 3
  simp only [World.size_alloc] at this
  exact this.below (b_new _ _)
 have bx:V6.cell? ⟨w.heap.size + 1,0,none⟩=some (.slice (some ⟨w.heap.size,0,none⟩) 2 2)/\V6.cell? ⟨w.heap.size + 1,1,none⟩=some (.int .i64 1)/\V6.cell? ⟨w.heap.size + 1 + 1 + 1,0,none⟩=some (.slice (some ⟨w.heap.size + 1 + 1,0,none⟩) 2 2)/\V6.cell? ⟨w.heap.size + 1 + 1 + 1,1,none⟩=some (.int .i64 2)/\V6.cell? ⟨w.heap.size + 1 + 1 + 1 + 1 + 1,0,none⟩=some (.slice (some ⟨w.heap.size + 1 + 1 + 1 + 1,0,none⟩) 2 2)/\V6.cell? ⟨w.heap.size + 1 + 1 + 1 + 1 + 1,1,none⟩=some (.int .i64 2):=by
  rw [← hV6]; simp [go_sem]
 have hP0:=Part.made V6
 have hb7:=b_new V6 (.map #[] 0)
 have hgb:∀ (W:World) (n:Nat) (os:List Int),Part (V6.alloc (.map #[] 0)) W V6.heap.size n os->(W.cell? ⟨w.heap.size + 1,0,none⟩=some (.slice (some ⟨w.heap.size,0,none⟩) 2 2)/\W.cell? ⟨w.heap.size + 1,1,none⟩=some (.int .i64 1)/\W.cell? ⟨w.heap.size + 1 + 1 + 1,0,none⟩=some (.slice (some ⟨w.heap.size + 1 + 1,0,none⟩) 2 2)/\W.cell? ⟨w.heap.size + 1 + 1 + 1,1,none⟩=some (.int .i64 2)/\W.cell? ⟨w.heap.size + 1 + 1 + 1 + 1 + 1,0,none⟩=some (.slice (some ⟨w.heap.size + 1 + 1 + 1 + 1,0,none⟩) 2 2)/\W.cell? ⟨w.heap.size + 1 + 1 + 1 + 1 + 1,1,none⟩=some (.int .i64 2))/\(IntsAt W (w.heap.size) [1,1]/\IntsAt W (w.heap.size + 1 + 1) [2,2]/\IntsAt W (w.heap.size + 1 + 1 + 1 + 1) [0,0])/\V6.heap.size < W.heap.size:=fun W n os h => by
  obtain ⟨x0,x1,x2,x3,x4,x5⟩:=bx
  have k:∀ {p:Addr} {v:Value},V6.cell? p=some v->W.cell? p=some v:=fun {p v} hp => by
   have hl:=cell_lt' hp
   exact h.grown.cell ((hb7.cell (p:=p) hl).trans hp) (fun e => by injection e; omega)
  have ki:∀ {b:Nat} {l:List Int},IntsAt V6 b l->IntsAt W b l:=fun {b l} hi i hl => k (hi i hl)
  exact ⟨⟨k x0,k x1,k x2,k x3,k x4,k x5⟩,⟨ki i1,ki i2,ki i3⟩,Nat.lt_of_lt_of_le (by simp [hs6]) h.grown.size⟩
 have HGB:=Lib.hid hgb
 have HB6:=Lib.hid hB6
 have HP0:=Lib.hid hP0
 have hend:∀ W n,Part (V6.alloc (.map #[] 0)) W V6.heap.size n [18,17,16,15,14,13,12,11,10,9,8,7,6,5,4,3]->(∃ m,Ending.returned (.map (some V6.heap.size))=.returned (.map (some m))/\Rules W m)/\Below w.heap.size w W:=fun W n h => by
  refine ⟨⟨_,rfl,?_⟩,?_⟩
  ·obtain ⟨D,hD,hall⟩:=h.own
   refine ⟨n,D,hD,fun op h1 h2 => ?_⟩
   obtain ⟨b,c,_,h3,h4⟩:=hall op (by simp only [List.mem_cons,List.not_mem_nil,or_false]; omega)
   exact ⟨b,c,h3,h4⟩
  ·exact ((hB6.trans (hb7.mono hB6.size))).grown h.grown (by simp; omega) (fun k e => by injection e; omega)
 have HE:=Lib.hid hend
 have hmm:=@run_makeMap Tryz.prog
 clear hgb hB6 hP0 hend hb7 bx i1 i2 i3
 obtain ⟨w1,hr1,hP1⟩:=run_rule (HP0.out.alloc (.cells #[.int .i64 1] 3)) (by unfold maxLen; omega) 3 (V6.heap.size + 1) 1 1 1 [1] rfl rfl rfl rfl (by decide) (by have:=(HGB.out _ _ _ HP0.out).2.2; omega) ((by have:=ints_new (V6.alloc (.map #[] 0)) [1] 3; rw [World.size_alloc] at this; exact this))
 obtain ⟨w2,hr2,hP2⟩:=run_rule (hP1.alloc (.cells #[.int .i64 2] 3)) (by unfold maxLen; omega) 4 w1.heap.size 1 1 2 [2] rfl rfl rfl rfl (by decide) (by have:=(HGB.out _ _ _ hP1).2.2; omega) (ints_new w1 [2] 3)
 obtain ⟨y2,z2,_,_,_,_⟩:=(HGB.out _ _ _ hP2).1
 obtain ⟨w3,hr3,hP3⟩:=run_rule hP2 (by unfold maxLen; omega) 5 (w.heap.size) 2 2 1 [1,1] rfl rfl rfl rfl (by decide) (by omega) (HGB.out _ _ _ hP2).2.1.1
 obtain ⟨y3,z3,_,_,_,_⟩:=(HGB.out _ _ _ hP3).1
 obtain ⟨w4,hr4,hP4⟩:=run_rule hP3 (by unfold maxLen; omega) 6 (w.heap.size) 2 2 1 [1,1] rfl rfl rfl rfl (by decide) (by omega) (HGB.out _ _ _ hP3).2.1.1
 obtain ⟨y4,z4,_,_,_,_⟩:=(HGB.out _ _ _ hP4).1
 obtain ⟨w5,hr5,hP5⟩:=run_rule hP4 (by unfold maxLen; omega) 7 (w.heap.size) 2 2 1 [1,1] rfl rfl rfl rfl (by decide) (by omega) (HGB.out _ _ _ hP4).2.1.1
 obtain ⟨y5,z5,_,_,_,_⟩:=(HGB.out _ _ _ hP5).1
 obtain ⟨w6,hr6,hP6⟩:=run_rule hP5 (by unfold maxLen; omega) 8 (w.heap.size) 2 2 1 [1,1] rfl rfl rfl rfl (by decide) (by omega) (HGB.out _ _ _ hP5).2.1.1
 obtain ⟨y6,z6,_,_,_,_⟩:=(HGB.out _ _ _ hP6).1
 obtain ⟨w7,hr7,hP7⟩:=run_rule hP6 (by unfold maxLen; omega) 9 (w.heap.size) 2 2 1 [1,1] rfl rfl rfl rfl (by decide) (by omega) (HGB.out _ _ _ hP6).2.1.1
 obtain ⟨w8,hr8,hP8⟩:=run_rule (hP7.alloc (.cells #[.int .i64 3,.int .i64 3] 3)) (by unfold maxLen; omega) 10 w7.heap.size 2 2 3 [3,3] rfl rfl rfl rfl (by decide) (by have:=(HGB.out _ _ _ hP7).2.2; omega) (ints_new w7 [3,3] 3)
 obtain ⟨_,_,_,_,y8,z8⟩:=(HGB.out _ _ _ hP8).1
 obtain ⟨w9,hr9,hP9⟩:=run_rule hP8 (by unfold maxLen; omega) 11 (w.heap.size + 1 + 1 + 1 + 1) 2 2 2 [0,0] rfl rfl rfl rfl (by decide) (by omega) (HGB.out _ _ _ hP8).2.1.2.2
 obtain ⟨_,_,_,_,y9,z9⟩:=(HGB.out _ _ _ hP9).1
 obtain ⟨w10,hr10,hP10⟩:=run_rule hP9 (by unfold maxLen; omega) 12 (w.heap.size + 1 + 1 + 1 + 1) 2 2 2 [0,0] rfl rfl rfl rfl (by decide) (by omega) (HGB.out _ _ _ hP9).2.1.2.2
 obtain ⟨_,_,_,_,y100,y10⟩:=(HGB.out _ _ _ hP10).1
 obtain ⟨w11,hr11,hP11⟩:=run_rule hP10 (by unfold maxLen; omega) 13 (w.heap.size + 1 + 1 + 1 + 1) 2 2 2 [0,0] rfl rfl rfl rfl (by decide) (by omega) (HGB.out _ _ _ hP10).2.1.2.2
 obtain ⟨_,_,_,_,y111,y11⟩:=(HGB.out _ _ _ hP11).1
 obtain ⟨w12,hr12,hP12⟩:=run_rule hP11 (by unfold maxLen; omega) 14 (w.heap.size + 1 + 1 + 1 + 1) 2 2 2 [0,0] rfl rfl rfl rfl (by decide) (by omega) (HGB.out _ _ _ hP11).2.1.2.2
 obtain ⟨_,_,y122,y12,_,_⟩:=(HGB.out _ _ _ hP12).1
 obtain ⟨w13,hr13,hP13⟩:=run_rule hP12 (by unfold maxLen; omega) 15 (w.heap.size + 1 + 1) 2 2 2 [2,2] rfl rfl rfl rfl (by decide) (by omega) (HGB.out _ _ _ hP12).2.1.2.1
 obtain ⟨_,_,y133,y13,_,_⟩:=(HGB.out _ _ _ hP13).1
 obtain ⟨w14,hr14,hP14⟩:=run_rule hP13 (by unfold maxLen; omega) 16 (w.heap.size + 1 + 1) 2 2 2 [2,2] rfl rfl rfl rfl (by decide) (by omega) (HGB.out _ _ _ hP13).2.1.2.1
 obtain ⟨w15,hr15,hP15⟩:=run_rule (hP14.alloc (.cells #[.int .i64 2,.int .i64 0,.int .i64 0] 3)) (by unfold maxLen; omega) 17 w14.heap.size 3 3 0 [2,0,0] rfl rfl rfl rfl (by decide) (by have:=(HGB.out _ _ _ hP14).2.2; omega) (ints_new w14 [2,0,0] 3)
 obtain ⟨w16,hr16,hP16⟩:=run_rule (hP15.alloc (.cells #[.int .i64 3] 3)) (by unfold maxLen; omega) 18 w15.heap.size 1 1 1 [3] rfl rfl rfl rfl (by decide) (by have:=(HGB.out _ _ _ hP15).2.2; omega) (ints_new w15 [3] 3)
 have HZ:=HE.out _ _ hP16
 have HZ2:=Lib.hid HZ
 clear HZ hs6 hP1 hP2 hP3 hP4 hP5 hP6 hP7 hP8 hP9 hP10 hP11 hP12 hP13 hP14 hP15 hP16
 go_enter Tryz.func160,Tryz.ntmps160
 go_wp2_with fail
 go_ret
 exact HZ2.out
end TyT
namespace TyO
open Go.RowKit
open ExM Kit ExL GenL TyM Ty TyT ExN
set_option linter.unusedVariables false
theorem infoI:(Tryz.prog.info? 3).map (fun i => (i.zero,i.size,i.bytes))=some (some (.int .i64 0),1,8):=by kernel_rfl
def vals (l:List (Int × Int)):List Value:=l.map fun p => .int .i64 p.1
theorem vals_len (l:List (Int × Int)):(vals l).length=l.length:=by unfold vals; rw [List.length_map]
theorem vals_snoc (l:List (Int × Int)) (p:Int × Int):vals (l ++ [p])=vals l ++ [.int .i64 p.1]:=by unfold vals; rw [List.map_append]; rfl
theorem ints_vals (w:World) (b:Nat) (l:List (Int × Int)) (h:∀ j,j < l.length->w.cell? ⟨b,j,none⟩=(vals l)[j]?):IntsAt w b (l.map (·.1)):=fun i hi => by
 rw [List.length_map] at hi
 rw [h i hi]; unfold vals
 simp [hi]
structure TInv (w:World) (fs:List GenL.Fd) (l:List Ex) (g k:Nat) (wr:World):Prop where
 le:k<=l.length
 err:errL (tyL (fts fs) (l.take k))=0
 row:∃ r:List Value,wr.ownsRow w.heap.size 3 1 (.slice (some ⟨g,0,none⟩) l.length l.length) l.length (vals (tyL (fts fs) (l.take k)) ++ r)
 below:Below w.heap.size w wr
theorem TInv.len {w:World} {fs:List GenL.Fd} {l:List Ex} {g k:Nat} {wr:World} (h:TInv w fs l g k wr):(vals (tyL (fts fs) (l.take k))).length=k:=by
 rw [vals_len,tyL_len,List.length_take]; have:=h.le; omega
theorem TInv.cell {w:World} {fs:List GenL.Fd} {l:List Ex} {g k:Nat} {wr:World} (h:TInv w fs l g k wr) (hk:k < l.length):(∃ v,wr.cell? ⟨g,k,none⟩=some v)/\wr.frozen? ⟨g,k,none⟩=false:=by
 obtain ⟨r,hr⟩:=h.row
 have hl:=hr.1
 exact ⟨⟨_,(hr.cellAt k (by omega)).trans (List.getElem?_eq_getElem (by omega))⟩,hr.frozenAt k⟩
theorem TInv.step {w:World} {fs:List GenL.Fd} {l:List Ex} {g k:Nat} {wr w1:World} (h:TInv w fs l g k wr) (hk:k < l.length) (hb:Below wr.heap.size wr w1) (h0:(Ex.ty (fts fs) l[k]).2=0) :
  TInv w fs l g (k + 1) (w1.setCell ⟨g,k,none⟩ (.int .i64 (Ex.ty (fts fs) l[k]).1)):=by
 refine ⟨hk,by rw [errL_at _ l k hk h.err,h0],?_,?_⟩
 ·obtain ⟨r,hr⟩:=h.row
  have hl:(vals (tyL (fts fs) (l.take k)) ++ r).length=l.length * 1:=hr.1
  rw [List.length_append,h.len] at hl
  have hr1:=hr.kept (row:=none) ⟨hb.os,hb.tape,hb.output,hb.size,fun k hk _ => hb.block k hk⟩ (.inr (by simp [Value.ownBlock]))
  refine ⟨r.drop 1,?_⟩
  have hs:=(hr1.stored k (.int .i64 (Ex.ty (fts fs) l[k]).1)).1
  rw [NmC.set_app _ _ 0 k (by have:=h.len; omega)] at hs
  rw [tyL_at _ l k hk,vals_snoc]
  match r,hl,hs with
  | [],hl,_ => simp at hl; omega
  | x :: r,_,hs => simpa using hs
 ·obtain ⟨r,hr⟩:=h.row
  have hg:w.heap.size<=g:=by
   rcases hr.2 with ⟨h2,_⟩ | ⟨g',cap',cur,h2,h3,_⟩
   ·simp at h2
   ·injection h2 with h2; injection h2 with h2; injection h2 with h2; omega
  exact (h.below.trans (hb.mono h.below.size)).setCell (p:=⟨g,k,none⟩) hg _
theorem TInv.ints {w:World} {fs:List GenL.Fd} {l:List Ex} {g:Nat} {wr:World} (h:TInv w fs l g l.length wr):IntsAt wr g ((tyL (fts fs) l).map (·.1)):=by
 obtain ⟨r,hr⟩:=h.row
 have hl:=h.len
 rw [List.take_length] at hr hl
 exact ints_vals wr g _ fun j hj => by
  rw [hr.cellAt j (by rw [tyL_len] at hj; omega),List.getElem?_append_left (by rw [vals_len]; exact hj)]
set_option maxRecDepth 100000 in
set_option maxHeartbeats 2000000 in
theorem typeOf_any (fs : List GenL.Fd) (FA : Option Addr) (fc m : Nat) (hm : fs.length ≤ 1000000000000) : ∀ (x : Ex) (d : Nd) (A : Option Addr) (n c : Nat) (w : World), x.okN → Is w x d A n → Flds w FA fs → Rules w m →
    Calls Tryz.prog 159 #[.agg #[.int .i64 d.op, .int .i64 d.k, .int .i64 d.n, .string d.s, .string d.nm, .slice A n c], .slice FA fs.length fc, .map (some m)] w fun e w' => e = .returned (.tuple #[.int .i64 (Ex.ty (fts fs) x).1, .int .i64 (Ex.ty (fts fs) x).2]) ∧ Below w.heap.size w w' := by
  refine Ex.ind fun d l ih => ?_
  intro d' A n c w hok his hf hru
  rw [is_mk] at his
  obtain ⟨rfl, rfl, ⟨hmx, _⟩, his⟩ := his
  obtain ⟨o1, o2, o3⟩ := okN_op hok
  have hokl := ((okN_mk d' l).1 hok).2
  rw [ty_mk]
  obtain ⟨R, hR⟩ : ∃ R, tyN (fts fs) d' (tyL (fts fs) l) = R := ⟨_, rfl⟩
  rw [hR]
  have HS := Lib.hid his
  have HI := Lib.hid ih
  have HF := Lib.hid hf
  have HRu := Lib.hid hru
  have HOk := Lib.hid hokl
  by_cases p1 : d'.op = 1
  · obtain rfl : R = (d'.k, 0) := by rw [← hR]; unfold tyN; rw [if_pos p1]
    clear hR his ih hf hru hokl hok o3
    have t1 : (d'.op == 1) = true := by rw [p1]; rfl
    go_enter Tryz.func159, Tryz.ntmps159
    go_wp2_with fail
    go_ret2
    exact ⟨rfl, b_new _ _⟩
  have t1 : (d'.op == 1) = false := beq_eq_false_iff_ne.2 p1
  by_cases p2 : d'.op = 2
  · obtain rfl : R = fieldT (fts fs) d'.nm := by rw [← hR]; unfold tyN; rw [if_neg p1, if_pos p2]
    obtain ⟨op, k, n, s, nm⟩ := d'
    obtain rfl : op = 2 := p2
    have hc := field_any nm fs FA fc (w.alloc (.cells #[.int .i64 2, .int .i64 k, .int .i64 n, .string s, .string nm, .slice A l.length c] 41)) (hf.below (b_new _ _)) hm
    have HC := Lib.hid hc
    clear hR his ih hf hru hokl hok o3 hc t1 p1
    go_enter Tryz.func159, Tryz.ntmps159
    go_wp2_with fail
    refine HC.out.mono ?_; rintro e w1 ⟨rfl, rfl⟩
    go_wp2_with fail
    go_ret2
    exact ⟨rfl, b_new _ _⟩
  have t2 : (d'.op == 2) = false := beq_eq_false_iff_ne.2 p2
  have o3' : 1 ≤ l.length ∧ l.length ≤ 3 := by
    rw [o3]; exact ⟨arity_pos (by omega), by unfold arity; repeat' split
                                             all_goals omega⟩
  obtain ⟨l1, l3⟩ := o3'
  have hgood : errL (tyL (fts fs) l) = 0 → R = applyR (ruleReq d'.op) (ruleRes d'.op) ((tyL (fts fs) l).map (·.1)) := fun h => by
    rw [← hR]; unfold tyN; rw [if_neg p1, if_neg p2, if_pos h]
  have hbad : ∀ e, errL (tyL (fts fs) l) = e → e ≠ 0 → R = (0, e) := fun e h he => by
    rw [← hR]; unfold tyN; rw [if_neg p1, if_neg p2, h, if_neg he]
  have hreq : (ruleReq d'.op).length = l.length := by rw [ruleReq_len (by omega) o2, o3]
  obtain ⟨i0, hi, hz0, hz1, hz2⟩ := info_parts infoI
  have HG := Lib.hid hgood
  have HB := Lib.hid hbad
  have HQ := Lib.hid hreq
  have HO := Lib.hid (And.intro (show 3 ≤ d'.op by omega) o2)
  have hI0 : ∀ W', W'.ownsRow w.heap.size 3 1 (.slice (some ⟨w.heap.size + 1, 0, none⟩) l.length l.length) l.length (madeCells (Value.int .i64 0).cells (l.length * 1)).toList → (w.alloc (.cells #[.int .i64 d'.op, .int .i64 d'.k, .int .i64 d'.n, .string d'.s, .string d'.nm, .slice A l.length c] 41)).grownBy W' none → TInv w fs l (w.heap.size + 1) 0 W' := fun W' h1 h2 =>
    ⟨Nat.zero_le _, by simp [tyL_nil, errL], ⟨_, by simpa [tyL_nil, vals] using h1⟩, (b_new _ _).grown h2 (by simp) (fun k e => by cases e)⟩
  have HI0 := Lib.hid hI0
  have hbx : ∀ W', (w.alloc (.cells #[.int .i64 d'.op, .int .i64 d'.k, .int .i64 d'.n, .string d'.s, .string d'.nm, .slice A l.length c] 41)).grownBy W' none → W'.cell? ⟨w.heap.size, 0, none⟩ = some (.int .i64 d'.op) ∧ W'.cell? ⟨w.heap.size, 5, none⟩ = some (.slice A l.length c) := fun W' h =>
    ⟨h.cell (by simp [go_sem]) (by simp), h.cell (by simp [go_sem]) (by simp)⟩
  have HBx := Lib.hid hbx
  clear hbx hR his ih hf hru hokl hok o3 hgood hbad hreq hI0 o1 o2 p1 p2
  go_enter Tryz.func159, Tryz.ntmps159
  go_wp2_with ((at_make; refine wpList_make_full _ rfl _ _ 69 rfl w.heap.size 3 i0 _ 1 Tryz.underlying69 hi hz0 hz1 .i64 .i64 _ _ l.length rfl rfl rfl rfl (by rw [hz2]; omega) (by unfold maxLen; omega) (by simp) ?_; intro w1 hown hgrow; obtain ⟨b0, b5⟩ := HBx.out w1 hgrow))
  rw [World.size_alloc] at hown
  have hI := HI0.out w1 hown hgrow
  have HBx2 := Lib.hid (HBx.out w1 hgrow)
  have hsz : w.heap.size + 1 < w1.heap.size := (hown.lt (w.heap.size + 1) rfl).2
  have sz1 := Lib.hid hsz
  have HIv := Lib.hid hI
  clear hI hown hgrow b0 b5 HI0 HBx
  go_loopw [9, 11, 12, 35] (fun _ _ _ i wr => ∃ (k : Nat), i = .int .i64 k ∧ TInv w fs l (w.heap.size + 1) k wr ∧ (wr.cell? ⟨w.heap.size, 0, none⟩ = some (.int .i64 d'.op)) ∧ w.heap.size + 1 < wr.heap.size) (fun _ _ _ i _ => l.length - (intOf i).toNat)
  case atStart => exact ⟨0, rfl, HIv.out, HBx2.out.1, sz1.out⟩
  case round =>
    obtain ⟨k, rfl, hV, hop, hws⟩ := hrel
    have hk := hV.le
    have HV := Lib.hid hV
    clear hV
    by_cases hlt : k < l.length
    · obtain ⟨a, d2, B, m2, c2, rfl, hat, hi⟩ := HS.out k hlt
      have hbw := HV.out.below
      obtain ⟨h0, h1, h2, h3, h4, h5⟩ := hat.below hbw
      have hc := HI.out _ (List.getElem_mem hlt) d2 B m2 c2 (wr.alloc (.cells #[.int .i64 d2.op, .int .i64 d2.k, .int .i64 d2.n, .string d2.s, .string d2.nm, .slice B m2 c2] 41)) (HOk.out _ (List.getElem_mem hlt)) ((hi.below hbw).alloc _) ((HF.out.below hbw).below (b_new _ _)) ((HRu.out.below hbw).below (b_new _ _))
      obtain ⟨t, ht⟩ : ∃ a, (Ex.ty (fts fs) l[k]).1 = a := ⟨_, rfl⟩
      obtain ⟨e0, he⟩ : ∃ a, (Ex.ty (fts fs) l[k]).2 = a := ⟨_, rfl⟩
      rw [ht, he] at hc
      have hst : ∀ W, Below wr.heap.size wr W → e0 = 0 → TInv w fs l (w.heap.size + 1) (k + 1) (W.setCell ⟨w.heap.size + 1, k, none⟩ (.int .i64 t)) := fun W hb h => by
        rw [← ht]; exact HV.out.step hlt hb (by rw [he]; exact h)
      have hbd : e0 ≠ 0 → R = (0, e0) := fun h => HB.out e0 (by rw [errL_stop _ l k hlt HV.out.err (by rw [he]; exact h), he]) h
      obtain ⟨⟨v0, hv0⟩, hfz⟩ := HV.out.cell hlt
      have HC := Lib.hid hc
      have HSt := Lib.hid hst
      have HBd := Lib.hid hbd
      have HBW := Lib.hid hbw
      clear hc hst hbd hi hat ht he hbw
      go_wp2_with fail
      refine HC.out.mono ?_; rintro e w2 ⟨rfl, hb2⟩
      have hb3 : Below wr.heap.size wr w2 := b_then hb2
      have g0 := (hb3.cell (p := ⟨w.heap.size + 1, k, none⟩) hws).trans hv0
      have gz := (hb3.frozen (p := ⟨w.heap.size + 1, k, none⟩) hws).trans hfz
      have gop := (hb3.cell (p := ⟨w.heap.size, 0, none⟩) (by show w.heap.size < _; omega)).trans hop
      have hws2 : w.heap.size + 1 < w2.heap.size := Nat.lt_of_lt_of_le hws hb3.size
      have hbE : Below w.heap.size w w2 := HBW.out.trans (hb3.mono HBW.out.size)
      have HBE := Lib.hid hbE
      have HI3 := Lib.hid (HSt.out w2 hb3)
      clear hb2 hb3 hbE h0 h1 h2 h3 h4 h5 hop hv0 hfz
      by_cases h0 : e0 = 0
      · subst h0
        go_wp2_with fail
        go_roundw
        case rel => exact ⟨k + 1, by go_num, (by first | exact HI3.out rfl | exact HI3.out trivial), (World.cell?_of_block (a := ⟨w.heap.size, 0, none⟩) (Below.heap_setCell w2 ⟨w.heap.size + 1, k, none⟩ _ w.heap.size (by simp))).trans gop, by rw [sz_set]; exact hws2⟩
        case measure => simp [intOf]; omega
      · have t3 : (e0 == 0) = false := beq_eq_false_iff_ne.2 h0
        obtain rfl := HBd.out h0
        go_wp2_with fail
        go_ret2
        exact ⟨rfl, HBE.out⟩
    · have hkl : k = l.length := by omega
      subst hkl
      have hbw := HV.out.below
      obtain ⟨rb, rc, hlook, hri⟩ := (HRu.out.below hbw).look HO.out.1 HO.out.2
      have herr := HV.out.err
      rw [List.take_length] at herr
      have hR := HG.out herr
      have hap := apply_any (ruleReq d'.op) ((tyL (fts fs) l).map (·.1)) (ruleRes d'.op) rb (w.heap.size + 1) rc l.length wr hri HV.out.ints (by rw [HQ.out, List.length_map, tyL_len]; exact Nat.le_refl _) (by rw [List.length_map, tyL_len]; exact l1) (by rw [List.length_map, tyL_len]; omega)
      rw [← hR, List.length_map, tyL_len, HQ.out] at hap
      rw [HQ.out] at hlook
      have HA := Lib.hid hap
      have HBW := Lib.hid hbw
      clear hap hri herr hR hbw
      go_wp2_with fail
      refine HA.out.mono ?_; rintro e w2 ⟨rfl, hb2⟩
      have hbE : Below w.heap.size w w2 := HBW.out.trans (hb2.mono HBW.out.size)
      have HBE := Lib.hid hbE
      clear hb2 hbE
      go_wp2_with fail
      go_ret2
      exact ⟨rfl, HBE.out⟩
theorem b_step {wc w w':World} (h:Below wc.heap.size wc w) (h':Below w.heap.size w w'):Below wc.heap.size wc w':=h.trans (h'.mono h.size)
set_option maxRecDepth 100000 in
set_option maxHeartbeats 2000000 in
theorem of_any (x:Ex) (fs:List GenL.Fd) (FA:Option Addr) (fc:Nat) (d:Nd) (A:Option Addr) (n c:Nat) (w:World) (hm:fs.length<=1000000000000) (his:Is w x d A n) (hf:Flds w FA fs) (hT:Tab w) :
  Calls Tryz.prog 129 #[.agg #[.int .i64 d.op,.int .i64 d.k,.int .i64 d.n,.string d.s,.string d.nm,.slice A n c],.slice FA fs.length fc] w fun e w' => e=.returned (.tuple #[.int .i64 (ofT (fts fs) x).1,.int .i64 (ofT (fts fs) x).2])/\Below w.heap.size w w':=by
 obtain ⟨R,hR⟩:∃ R,ofT (fts fs) x=R:=⟨_,rfl⟩
 obtain ⟨e0,he0⟩:∃ e,x.checkE=e:=⟨_,rfl⟩
 rw [hR]
 have hck:=fun W (hb:Below w.heap.size w W) => ExC.check_any x d A n c W (his.below hb) (hT.below hb)
 rw [he0] at hck
 have hty:=fun m W (hb:Below w.heap.size w W) (h0:e0=0) (hru:Rules W m) => typeOf_any fs FA fc m hm x d A n c W (checkE_zero (by rw [he0,h0])).2.2 (his.below hb) (hf.below hb) hru
 have hgood:e0=0->Ex.ty (fts fs) x=R:=fun h => by rw [← hR]; unfold ofT; rw [if_pos (by rw [he0,h])]
 have hbad:e0 ≠ 0->R=(0,e0):=fun h => by rw [← hR]; unfold ofT; rw [he0,if_neg h]
 have HCk:=Lib.hid hck
 have HTy:=Lib.hid hty
 have HG:=Lib.hid hgood
 have HB:=Lib.hid hbad
 clear hck hty hgood hbad hR he0 his hf hT
 go_enter Tryz.func129,Tryz.ntmps129
 go_wp2_with fail
 refine (HCk.out _ (b_new w _)).mono ?_; rintro e w1 ⟨rfl,hb1⟩
 have hbx:=(ExV.Box.new w d A n c).below hb1
 have hb1w:Below w.heap.size w w1:=b_then hb1
 have HBW:=Lib.hid hb1w
 have hcl:∀ W,Below w1.heap.size w1 W->W.cell? ⟨w.heap.size,0,none⟩=some (.int .i64 d.op)/\W.cell? ⟨w.heap.size,1,none⟩=some (.int .i64 d.k)/\W.cell? ⟨w.heap.size,2,none⟩=some (.int .i64 d.n)/\W.cell? ⟨w.heap.size,3,none⟩=some (.string d.s)/\W.cell? ⟨w.heap.size,4,none⟩=some (.string d.nm)/\W.cell? ⟨w.heap.size,5,none⟩=some (.slice A n c):=fun W hb => (hbx.below hb).cells
 have HCells:=Lib.hid hcl
 clear hb1 hbx hb1w hcl
 by_cases h0:e0=0
 ·subst h0
  have hg:=HG.out (by first | rfl | trivial)
  have hty:=fun m W (hb:Below w1.heap.size w1 W) (hru:Rules W m) => HTy.out m W (HBW.out.trans (hb.mono HBW.out.size)) rfl hru
  rw [hg] at hty
  have HT2:=Lib.hid hty
  obtain ⟨c0,c1,c2,c3,c4,c5⟩:=HCells.out w1 (Below.refl _ _)
  have hbl:=Below.refl w1.heap.size w1
  clear hty hg HG HB HTy HCk
  go_wp2_with fail
  go_region_held3 (fun W => W.cell? ⟨w.heap.size,0,none⟩=some (.int .i64 d.op)/\W.cell? ⟨w.heap.size,1,none⟩=some (.int .i64 d.k)/\W.cell? ⟨w.heap.size,2,none⟩=some (.int .i64 d.n)/\W.cell? ⟨w.heap.size,3,none⟩=some (.string d.s)/\W.cell? ⟨w.heap.size,4,none⟩=some (.string d.nm)/\W.cell? ⟨w.heap.size,5,none⟩=some (.slice A n c)) (first | (with_reducible exact HCells.out _ hbl) | (with_reducible exact HCells.out _ (b_drew hbl)))
   (first | (go_at_call 160; refine (rules_any _).mono ?_; rintro e wn ⟨⟨m,rfl,hru⟩,hbn⟩; have hbl:Below w1.heap.size w1 wn:=(by (first | (exact b_step hbl hbn) | (exact b_step (b_drew hbl) hbn)))) | (go_at_call 159; (with_reducible refine (HT2.out _ _ ?_ ?_).mono ?_); (first | exact hbl | exact b_drew hbl); (first | exact hru | exact hru.below (b_drew (Below.refl _ _))); rintro e wk ⟨rfl,hbk⟩; have hbl:Below w1.heap.size w1 wk:=(by (first | (exact b_step hbl hbk) | (exact b_step (b_drew hbl) hbk)))))
  go_wp2_with fail
  go_ret2
  exact ⟨rfl,HBW.out.trans (hbl.mono HBW.out.size)⟩
 ·have t1:(e0 == 0)=false:=beq_eq_false_iff_ne.2 h0
  obtain rfl:=HB.out h0
  obtain ⟨c0,c1,c2,c3,c4,c5⟩:=HCells.out w1 (Below.refl _ _)
  go_wp2_with fail
  go_ret2
  exact ⟨rfl,HBW.out⟩
set_option maxRecDepth 100000 in
set_option maxHeartbeats 2000000 in
theorem fits_any (x:Ex) (fs:List GenL.Fd) (FA:Option Addr) (fc:Nat) (want:Int) (d:Nd) (A:Option Addr) (n c:Nat) (w:World) (hm:fs.length<=1000000000000) (his:Is w x d A n) (hf:Flds w FA fs) (hT:Tab w) :
  Calls Tryz.prog 128 #[.agg #[.int .i64 d.op,.int .i64 d.k,.int .i64 d.n,.string d.s,.string d.nm,.slice A n c],.slice FA fs.length fc,.int .i64 want] w fun e w' => e=.returned (.int .i64 (fitsT (fts fs) x want))/\Below w.heap.size w w':=by
 obtain ⟨t,e0,hR⟩:∃ t e,ofT (fts fs) x=(t,e):=⟨_,_,rfl⟩
 have hres:fitsT (fts fs) x want=if e0=0 then (if t=want then 0 else 9) else e0:=by unfold fitsT; rw [hR]
 have hc:=fun W (hb:Below w.heap.size w W) => of_any x fs FA fc d A n c W hm (his.below hb) (hf.below hb) (hT.below hb)
 rw [hR] at hc
 rw [hres]
 have HC:=Lib.hid hc
 clear hc hres hR his hf hT
 go_enter Tryz.func128,Tryz.ntmps128
 go_wp2_with fail
 refine (HC.out _ (b_new w _)).mono ?_; rintro e w1 ⟨rfl,hb1⟩
 have HBW:=Lib.hid (b_then hb1)
 clear hb1
 by_cases h0:e0=0
 ·subst h0
  by_cases ht:t=want
  ·subst ht
   go_wp2_with fail
   go_ret
   exact ⟨by simp,HBW.out⟩
  ·have t1:(t == want)=false:=beq_eq_false_iff_ne.2 ht
   go_wp2_with fail
   go_ret
   exact ⟨by simp,HBW.out⟩
 ·have t1:(e0 == 0)=false:=beq_eq_false_iff_ne.2 h0
  go_wp2_with fail
  go_ret
  exact ⟨rfl,HBW.out⟩
end TyO
namespace FcU
open GenL FldP
theorem at_has:∀ {l:List GenL.Fd} {s:ByteArray} {j:Nat} (hj:j < l.length),l[j].nm=s->atF l s < l.length
 | f :: l,s,j,hj,he => by
  unfold atF
  by_cases e2:f.nm=s
  ·rw [if_pos e2]; simp
  ·rw [if_neg e2]
   match j,hj,he with
   | 0,_,he => exact absurd he e2
   | j + 1,hj,he => have:=at_has (l:=l) (j:=j) (by simpa using hj) he; simp; omega
end FcU
namespace WhU
open Go.RowKit
open NumM ValM StrM ExM NmM TyM EvM Kit ExL GenL FldP Ty
set_option linter.unusedVariables false
theorem ty_congr {fs gs:List (ByteArray × Int)}:∀ x:Ex,(∀ s ∈ Ex.refs x,fieldT fs s=fieldT gs s)->Ex.ty fs x=Ex.ty gs x:=by
 refine Ex.ind fun d l ih => ?_
 intro h
 have hl:tyL fs l=tyL gs l:=by
  rw [tyL_map,tyL_map]
  refine List.map_congr_left fun x hx => ih x hx fun s hs => h s ?_
  rw [refs_mk,List.mem_append]
  exact .inr (mem_refsL hx hs)
 rw [ty_mk,ty_mk,hl]
 unfold tyN
 by_cases h1:d.op=1
 ·rw [if_pos h1,if_pos h1]
 ·rw [if_neg h1,if_neg h1]
  by_cases h2:d.op=2
  ·rw [if_pos h2,if_pos h2]
   exact h d.nm (by rw [refs_mk_pos d l h2]; simp)
  ·rw [if_neg h2,if_neg h2]
def pickF (F:List GenL.Fd) (s:ByteArray):List GenL.Fd:=if h:atF F s < F.length then [F[atF F s]] else []
def usedF (F:List GenL.Fd) (x:Ex):List GenL.Fd:=(Ex.refs x).flatMap (pickF F)
def usedL (F:List GenL.Fd) (l:List Ex):List GenL.Fd:=(refsL l).flatMap (pickF F)
theorem usedF_mk (F:List GenL.Fd) (d:Nd) (l:List Ex):usedF F (.mk d l)=(if d.op=2 then pickF F d.nm else []) ++ usedL F l:=by
 unfold usedF usedL
 rw [refs_mk,List.flatMap_append]
 congr 1
 by_cases h:d.op=2
 ·rw [if_pos h,if_pos h]; simp
 ·rw [if_neg h,if_neg h]; rfl
theorem fts_app (a b:List GenL.Fd):fts (a ++ b)=fts a ++ fts b:=List.map_append
theorem pick_ty (F:List GenL.Fd) (s:ByteArray):∀ L:List ByteArray,(s ∈ L->fieldT (fts (L.flatMap (pickF F))) s=fieldT (fts F) s)/\(¬ s ∈ L->fieldT (fts (L.flatMap (pickF F))) s=(0,5))
 | [] => ⟨fun h => by simp at h,fun _ => rfl⟩
 | t :: L => by
  obtain ⟨ih1,ih2⟩:=pick_ty F s L
  have ih:fieldT (fts (L.flatMap (pickF F))) s=fieldT (fts F) s ∨ fieldT (fts (L.flatMap (pickF F))) s=(0,5):=by
   by_cases hm:s ∈ L
   ·exact .inl (ih1 hm)
   ·exact .inr (ih2 hm)
  rw [List.flatMap_cons,fts_app]
  unfold pickF
  by_cases h:atF F t < F.length
  ·rw [dif_pos h]
   obtain ⟨e1,e2⟩:=atF_at h
   show (s ∈ t :: L->(if F[atF F t].nm=s then (F[atF F t].ty,0) else fieldT (fts (L.flatMap (pickF F))) s)=_)/\(¬ s ∈ t :: L->(if F[atF F t].nm=s then (F[atF F t].ty,0) else fieldT (fts (L.flatMap (pickF F))) s)=_)
   by_cases e:t=s
   ·subst e
    rw [if_pos e1]
    exact ⟨fun _ => (fieldT_fts h (fun j hj hjk => e2 j hj hjk) e1).symm,fun h => absurd (List.mem_cons_self ..) h⟩
   ·rw [if_neg (by rw [e1]; exact e)]
    refine ⟨fun hm => ih1 ?_,fun hm => ih2 fun h => hm (List.mem_cons_of_mem _ h)⟩
    rcases List.mem_cons.1 hm with hm | hm
    ·exact absurd hm.symm e
    ·exact hm
  ·rw [dif_neg h]
   show (s ∈ t :: L->fieldT (fts (L.flatMap (pickF F))) s=_)/\(¬ s ∈ t :: L->fieldT (fts (L.flatMap (pickF F))) s=_)
   refine ⟨fun hm => ?_,fun hm => ih2 fun h => hm (List.mem_cons_of_mem _ h)⟩
   rcases List.mem_cons.1 hm with hm | hm
   ·subst hm
    have hn:fieldT (fts F) s=(0,5):=fieldT_fts_none fun j hj hh => by
     have:=FcU.at_has hj hh
     omega
    rcases ih with ih | ih
    ·exact ih
    ·rw [ih,hn]
   ·exact ih1 hm
theorem used_ty (F:List GenL.Fd) (x:Ex):ofT (fts (usedF F x)) x=ofT (fts F) x:=by
 unfold ofT
 by_cases h:x.checkE=0
 ·rw [if_pos h,if_pos h]
  refine ty_congr x fun s hs => ?_
  unfold usedF
  exact (pick_ty F s _).1 hs
 ·rw [if_neg h,if_neg h]
end WhU
namespace EvF
open Go.RowKit
open NumM ValM StrM ExM TyM EvM Kit ExL GenL
set_option linter.unusedVariables false
structure Fc where
 nm:ByteArray
 kk:Int
 kn:Int
 ks:ByteArray
 v:Vl
def fcs (l:List Fc):List (ByteArray × Vl):=l.map fun f => (f.nm,f.v)
def FcAt (w:World) (p:Addr) (f:Fc):Prop :=
 w.cell? p=some (.string f.nm)/\w.cell? ⟨p.block,p.off + 1,none⟩=some (.int .i64 f.kk)/\w.cell? ⟨p.block,p.off + 2,none⟩=some (.int .i64 f.kn)/\w.cell? ⟨p.block,p.off + 3,none⟩=some (.string f.ks) ∧
 w.cell? ⟨p.block,p.off + 4,none⟩=some (.int .i64 f.v.k)/\w.cell? ⟨p.block,p.off + 5,none⟩=some (.int .i64 f.v.n)/\w.cell? ⟨p.block,p.off + 6,none⟩=some (.string f.v.s)
theorem FcAt.below {w w':World} {p:Addr} {f:Fc} (h:FcAt w p f) (hb:Below w.heap.size w w'):FcAt w' p f:=by
 have hl:=cell_lt' h.1
 have k:∀ o v,w.cell? ⟨p.block,o,none⟩=some v->w'.cell? ⟨p.block,o,none⟩=some v:=fun o v hv => (hb.cell (p:=⟨p.block,o,none⟩) hl).trans hv
 exact ⟨(hb.cell (p:=p) hl).trans h.1,k _ _ h.2.1,k _ _ h.2.2.1,k _ _ h.2.2.2.1,k _ _ h.2.2.2.2.1,k _ _ h.2.2.2.2.2.1,k _ _ h.2.2.2.2.2.2⟩
def Fcs (w:World) (A:Option Addr) (l:List Fc):Prop:=∀ (i:Nat) (h:i < l.length),∃ a,A=some a/\FcAt w (a.add (i * 7)) l[i]
theorem Fcs.below {w w':World} {A:Option Addr} {l:List Fc} (h:Fcs w A l) (hb:Below w.heap.size w w'):Fcs w' A l:=fun i hi => by
 obtain ⟨a,ha,hf⟩:=h i hi
 exact ⟨a,ha,hf.below hb⟩
theorem fcs_len (l:List Fc):(fcs l).length=l.length:=by unfold fcs; rw [List.length_map]
theorem fcs_at (l:List Fc) (k:Nat) (h:k < l.length) (g:k < (fcs l).length):(fcs l)[k]=(l[k].nm,l[k].v):=by simp only [fcs,List.getElem_map]
def fcC (f:Fc):List Value:=[.string f.nm,.int .i64 f.kk,.int .i64 f.kn,.string f.ks,.int .i64 f.v.k,.int .i64 f.v.n,.string f.v.s]
theorem fcAt_of {w:World} {g o:Nat} {f:Fc} (h:∀ j,j < 7->w.cell? ⟨g,o + j,none⟩=(fcC f)[j]?):FcAt w ⟨g,o,none⟩ f :=
 ⟨h 0 (by decide),h 1 (by decide),h 2 (by decide),h 3 (by decide),h 4 (by decide),h 5 (by decide),h 6 (by decide)⟩
end EvF
namespace FcM
open Go.RowKit
open ValM LexM NumM ExM TyM EvM Kit ExL RawV Within RawL GenL FldP EvF
set_option linter.unusedVariables false
def firstI (P:Nat->Int):Nat->Int
 | 0 => 0
 | n + 1 => if firstI P n=0 then P n else firstI P n
theorem firstI_zero {P:Nat->Int} {n:Nat} (h:∀ j,j < n->P j=0):firstI P n=0:=by
 induction n with
 | zero => rfl
 | succ n ih => unfold firstI; rw [ih fun j hj => h j (by omega),if_pos rfl]; exact h n (by omega)
theorem firstI_hit {P:Nat->Int} {n k:Nat} (hk:k < n) (h:∀ j,j < k->P j=0) (h0:P k ≠ 0):firstI P n=P k:=by
 induction n with
 | zero => omega
 | succ n ih =>
  unfold firstI
  by_cases e:k=n
  ·subst e; rw [firstI_zero h,if_pos rfl]
  ·rw [ih (by omega),if_neg h0]
def keyZ (f:Fc):Bool:=decide (f.kk=0) && decide (f.kn=0) && decide (f.ks=⟨#[]⟩)
def metB (L:List Fc) (k:Nat) (s:ByteArray):Bool:=(L.take k).any fun f => decide (f.nm=s)
theorem metB_zero (L:List Fc) (s:ByteArray):metB L 0 s=false:=by unfold metB; simp
theorem metB_succ (L:List Fc) (k:Nat) (h:k < L.length) (s:ByteArray):metB L (k + 1) s=(metB L k s || decide (L[k].nm=s)):=by
 unfold metB
 rw [List.take_succ_eq_append_getElem h,List.any_append]; simp
def factE (F:List GenL.Fd) (L:List Fc) (i:Nat):Int :=
 if h:i < L.length then (if toldE F L[i].nm L[i].v.k L[i].v.n L[i].v.s=0 then (if keyZ L[i]=true then (if metB L i L[i].nm=true then 6 else 0) else 3) else toldE F L[i].nm L[i].v.k L[i].v.n L[i].v.s) else 0
def factsE (F:List GenL.Fd) (L:List Fc):Int:=firstI (factE F L) L.length
theorem facts_stop {F:List GenL.Fd} {L:List Fc} {k:Nat} (hk:k < L.length) (h:∀ j,j < k->factE F L j=0) (h0:factE F L k ≠ 0):factsE F L=factE F L k:=firstI_hit hk h h0
theorem facts_all {F:List GenL.Fd} {L:List Fc} (h:∀ j,j < L.length->factE F L j=0):factsE F L=0:=firstI_zero h
def toldM (L:List Fc) (k:Nat) (s:ByteArray):Option Value:=if metB L k s=true then some (.bool true) else none
theorem toldM_zero (L:List Fc) (s:ByteArray):toldM L 0 s=none:=by unfold toldM; rw [metB_zero,if_neg (by decide)]
theorem toldM_put {L:List Fc} {k:Nat} (h:k < L.length) (t:ByteArray):(if t=L[k].nm then some (.bool true) else toldM L k t)=toldM L (k + 1) t:=by
 unfold toldM
 rw [metB_succ L k h]
 by_cases e:t=L[k].nm
 ·rw [if_pos e,if_pos (by simp [e])]
 ·rw [if_neg e]
  have:decide (L[k].nm=t)=false:=decide_eq_false fun h => e h.symm
  rw [this,Bool.or_false]
theorem toldM_get (L:List Fc) (k:Nat) (s:ByteArray):(toldM L k s).getD (.bool false)=.bool (metB L k s):=by
 unfold toldM
 cases metB L k s
 ·rw [if_neg (by decide)]; rfl
 ·rw [if_pos rfl]; rfl
def cutV (A:Option Addr) (c k:Nat):Value:=.slice (A.map fun a => a.add (k * 9)) 1 (c - k)
def byM (F:List GenL.Fd) (A:Option Addr) (c k:Nat) (s:ByteArray):Option Value:=if atF F s < k then some (cutV A c (atF F s)) else none
theorem byM_zero (F:List GenL.Fd) (A:Option Addr) (c:Nat) (s:ByteArray):byM F A c 0 s=none:=by unfold byM; rw [if_neg (Nat.not_lt_zero _)]
theorem at_ge {F:List GenL.Fd} {k:Nat} (hk:k < F.length) (h:¬ atF F F[k].nm < k):atF F F[k].nm=k:=by
 rcases Nat.lt_or_ge k (atF F F[k].nm) with h1 | h1
 ·exfalso
  by_cases h2:atF F F[k].nm < F.length
  ·exact (atF_at h2).2 k hk h1 rfl
  ·have:=atF_le F F[k].nm
   have e:atF F F[k].nm=F.length:=by omega
   -- some field has the name
   have key:∀ (l:List GenL.Fd) (s:ByteArray) (j:Nat) (hj:j < l.length),l[j].nm=s->atF l s < l.length:=fun l => by
    induction l with
    | nil => intro s j hj; exact absurd hj (by simp)
    | cons f l ih =>
     intro s j hj he
     unfold atF
     by_cases e2:f.nm=s
     ·rw [if_pos e2]; simp
     ·rw [if_neg e2]
      match j,hj,he with
      | 0,_,he => exact absurd he e2
      | j + 1,hj,he => have:=ih s j (by simpa using hj) he; simp; omega
   have:=key F F[k].nm k hk rfl
   omega
 ·omega
theorem byM_put {F:List GenL.Fd} (A:Option Addr) (c:Nat) {k:Nat} (hk:k < F.length) (h:¬ atF F F[k].nm < k) (t:ByteArray):(if t=F[k].nm then some (cutV A c k) else byM F A c k t)=byM F A c (k + 1) t:=by
 unfold byM
 by_cases e:t=F[k].nm
 ·rw [if_pos e,e,at_ge hk h,if_pos (Nat.lt_succ_self _)]
 ·rw [if_neg e]
  by_cases h2:atF F t < k
  ·rw [if_pos h2,if_pos (by omega)]
  ·rw [if_neg h2,if_neg]
   intro h3
   have h4:atF F t=k:=by omega
   have:=(atF_at (fs:=F) (s:=t) (by omega)).1
   simp only [h4] at this
   exact e this.symm
theorem byM_skip {F:List GenL.Fd} (A:Option Addr) (c:Nat) {k:Nat} (hk:k < F.length) (h:atF F F[k].nm < k) (t:ByteArray):byM F A c k t=byM F A c (k + 1) t:=by
 unfold byM
 by_cases h2:atF F t < k
 ·rw [if_pos h2,if_pos (by omega)]
 ·rw [if_neg h2,if_neg]
  intro h3
  have h4:atF F t=k:=by omega
  have:=(atF_at (fs:=F) (s:=t) (by omega)).1
  simp only [h4] at this
  rw [this,h4] at h
  omega
theorem told_one {F:List GenL.Fd} {s:ByteArray} (k n:Int) (t:ByteArray) (h:atF F s < F.length):toldE [F[atF F s]] s k n t=toldE F s k n t:=by
 have e:atF [F[atF F s]] s=0:=by unfold atF; rw [if_pos (atF_at h).1]
 unfold toldE
 rw [dif_pos h,dif_pos (show atF [F[atF F s]] s < [F[atF F s]].length from (by rw [e]; exact Nat.zero_lt_one:atF [F[atF F s]] s < 1))]
 simp only [e,List.getElem_cons_zero]
theorem told_no {F:List GenL.Fd} {s:ByteArray} (k n:Int) (t:ByteArray) (h:¬ atF F s < F.length):toldE [] s k n t=toldE F s k n t:=by
 unfold toldE
 rw [dif_neg h,dif_neg (by simp)]
end FcM
namespace WhM
open NumM ValM ExM NmM TyM StrM EvM EvP FoM
set_option linter.unusedVariables false
structure Fw where
 nm:ByteArray
 kind:Int
 ty:Int
 x:Ex
structure Fo where
 nm:ByteArray
 key:Vl
 has:Vl
def sameV (a b:Vl):Bool:=decide (a.k=b.k) && decide (a.n=b.n) && decide (a.s=b.s)
theorem sameV_iff {a b:Vl}:sameV a b=true ↔ a=b:=by
 unfold sameV
 simp only [Bool.and_eq_true,decide_eq_true_eq]
 constructor
 ·rintro ⟨⟨h1,h2⟩,h3⟩
  cases a; cases b
  simp only at h1 h2 h3
  rw [h1,h2,h3]
 ·rintro rfl; exact ⟨⟨rfl,rfl⟩,rfl⟩
def pen:Vl:=⟨4,0,e0⟩
def inV:List Fo->Fw->Vl
 | [],f => ⟨f.ty,0,e0⟩
 | o :: l,f => if o.nm=f.nm then o.has else inV l f
def hitB (nm:ByteArray) (key:Vl) (o:Fo):Bool:=decide (o.nm=nm) && sameV o.key key
def askF:List Fo->ByteArray->Vl->Vl
 | [],_,_ => pen
 | o :: l,nm,key => if hitB nm key o=true then o.has else askF l nm key
def askV (l:List Fo) (nm:ByteArray) (key:Vl):Vl:=if knV key=true then askF l nm key else key
def oneV (ins orc:List Fo) (f:Fw) (kn:List (ByteArray × Vl)):Vl :=
 if f.kind=1 then inV ins f else if f.kind=3 then askV orc f.nm (ofV kn f.x) else ofV kn f.x
def named (F:List Fw) (vs:List Vl):List (ByteArray × Vl):=List.zipWith (fun f v => (f.nm,v)) F vs
def nextV (ins orc:List Fo) (F:List Fw) (vs:List Vl):List Vl:=F.map fun f => oneV ins orc f (named F vs)
def pendV (F:List Fw):List Vl:=F.map fun _ => pen
def iterV (ins orc:List Fo) (F:List Fw):Nat->List Vl
 | 0 => pendV F
 | t + 1 => nextV ins orc F (iterV ins orc F t)
def allV (ins orc:List Fo) (F:List Fw):List Vl:=iterV ins orc F F.length
theorem next_len (ins orc:List Fo) (F:List Fw) (vs:List Vl):(nextV ins orc F vs).length=F.length:=by unfold nextV; rw [List.length_map]
theorem iter_len (ins orc:List Fo) (F:List Fw):∀ t,(iterV ins orc F t).length=F.length
 | 0 => by unfold iterV pendV; rw [List.length_map]
 | t + 1 => next_len _ _ _ _
theorem named_len {F:List Fw} {vs:List Vl} (h:vs.length=F.length):(named F vs).length=F.length:=by unfold named; rw [List.length_zipWith]; omega
theorem named_at {F:List Fw} {vs:List Vl} (h:vs.length=F.length) (i:Nat) (hi:i < F.length):(named F vs)[i]'(by rw [named_len h]; exact hi)=(F[i].nm,vs[i]'(by omega)):=by
 unfold named; rw [List.getElem_zipWith]
theorem fact_at:∀ (fs:List (ByteArray × Vl)) (s:ByteArray) (j:Nat) (hj:j < fs.length),(∀ i (hi:i < fs.length),i < j->fs[i].1 ≠ s)->fs[j].1=s->factV fs s=fs[j].2
 | f :: l,s,0,_,_,h => by rw [factV,if_pos (show f.1=s from h)]; rfl
 | f :: l,s,j + 1,hj,hn,h => by
  rw [factV,if_neg (show ¬ f.1=s from hn 0 (by simp) (by omega))]
  exact fact_at l s j (by simpa using hj) (fun i hi hij => hn (i + 1) (by simpa using hi) (by omega)) h
theorem fact_no:∀ (fs:List (ByteArray × Vl)) (s:ByteArray),(∀ f ∈ fs,f.1 ≠ s)->factV fs s=flt 5
 | [],_,_ => rfl
 | f :: l,s,h => by
  rw [factV,if_neg (h f (by simp))]
  exact fact_no l s fun g hg => h g (by simp [hg])
def Apart (F:List Fw):Prop:=∀ (i j:Nat) (hi:i < F.length) (hj:j < F.length),F[i].nm=F[j].nm->i=j
theorem named_fact {F:List Fw} {vs:List Vl} (ha:Apart F) (h:vs.length=F.length) (j:Nat) (hj:j < F.length):factV (named F vs) F[j].nm=vs[j]'(by omega):=by
 rw [fact_at (named F vs) F[j].nm j (by rw [named_len h]; exact hj) (fun i hi hij => ?_) (by rw [named_at h j hj]),named_at h j hj]
 rw [named_len h] at hi
 rw [named_at h i hi]
 intro e
 have:=ha i j hi hj e
 omega
theorem named_no {F:List Fw} {vs:List Vl} (h:vs.length=F.length) {s:ByteArray} (hs:∀ f ∈ F,f.nm ≠ s):factV (named F vs) s=flt 5:=by
 refine fact_no _ _ fun p hp => ?_
 obtain ⟨i,hi,rfl⟩:=List.getElem_of_mem hp
 rw [named_len h] at hi
 rw [named_at h i hi]
 exact hs _ (List.getElem_mem hi)
structure Wk (F:List Fw) (ρ:ByteArray->Nat):Prop where
 apart:Apart F
 lt:∀ f ∈ F,ρ f.nm < F.length
 dep:∀ f ∈ F,f.kind ≠ 1->∀ s ∈ Ex.refs f.x,(∃ g ∈ F,g.nm=s)->ρ s < ρ f.nm
 ty:∀ f ∈ F,1<=f.ty/\f.ty<=3
 src:∀ f ∈ F,f.kind ≠ 1->f.x.checkE=0
def Oks (l:List Fo):Prop:=∀ o ∈ l,o.has.ok
theorem pen_ok:pen.ok:=show valE 4 0 []=0 by decide
theorem ty_ok {t:Int} (h:1<=t/\t<=3):(⟨t,0,e0⟩:Vl).ok:=by
 have:t=1 ∨ t=2 ∨ t=3:=by omega
 rcases this with rfl | rfl | rfl
 ·exact show valE 1 0 []=0 by decide
 ·exact show valE 2 0 []=0 by decide
 ·exact show valE 3 0 []=0 by decide
theorem in_ok {ins:List Fo} {f:Fw} (h:Oks ins) (ht:1<=f.ty/\f.ty<=3):(inV ins f).ok:=by
 induction ins with
 | nil => exact ty_ok ht
 | cons o l ih =>
  unfold inV
  split
  ·exact h o (by simp)
  ·exact ih fun p hp => h p (by simp [hp])
theorem askF_ok {orc:List Fo} (h:Oks orc) (nm:ByteArray) (key:Vl):(askF orc nm key).ok:=by
 induction orc with
 | nil => exact pen_ok
 | cons o l ih =>
  unfold askF
  split
  ·exact h o (by simp)
  ·exact ih fun p hp => h p (by simp [hp])
theorem ask_ok {orc:List Fo} (h:Oks orc) (nm:ByteArray) {key:Vl} (hk:key.ok):(askV orc nm key).ok:=by
 unfold askV
 split
 ·exact askF_ok h nm key
 ·exact hk
def OkL (vs:List Vl):Prop:=∀ v ∈ vs,v.ok
theorem named_ok {F:List Fw} {vs:List Vl} (h:OkL vs):∀ f ∈ named F vs,f.2.ok:=fun f hf => by
 unfold named at hf
 obtain ⟨i,hi,rfl⟩:=List.getElem_of_mem hf
 rw [List.getElem_zipWith]
 exact h _ (List.getElem_mem _)
theorem of_ev {F:List Fw} {vs:List Vl} {x:Ex} (h:OkL vs) (hx:x.checkE=0):ofV (named F vs) x=Ex.ev (named F vs) x:=(ofE_ok hx (named_ok h)).2
theorem one_ok {ins orc:List Fo} {F:List Fw} {ρ:ByteArray->Nat} {vs:List Vl} {f:Fw} (hF:Wk F ρ) (hi:Oks ins) (ho:Oks orc) (h:OkL vs) (hf:f ∈ F):(oneV ins orc f (named F vs)).ok:=by
 unfold oneV
 by_cases h1:f.kind=1
 ·rw [if_pos h1]; exact in_ok hi (hF.ty f hf)
 ·rw [if_neg h1]
  have hs:=hF.src f hf h1
  have he:(ofV (named F vs) f.x).ok:=by rw [of_ev h hs]; exact ev_ok (named_ok h) f.x (checkE_zero hs).2.2
  split
  ·exact ask_ok ho _ he
  ·exact he
theorem next_ok {ins orc:List Fo} {F:List Fw} {ρ:ByteArray->Nat} {vs:List Vl} (hF:Wk F ρ) (hi:Oks ins) (ho:Oks orc) (h:OkL vs):OkL (nextV ins orc F vs):=fun v hv => by
 obtain ⟨f,hf,rfl⟩:=List.mem_map.1 hv
 exact one_ok hF hi ho h hf
theorem iter_ok {ins orc:List Fo} {F:List Fw} {ρ:ByteArray->Nat} (hF:Wk F ρ) (hi:Oks ins) (ho:Oks orc):∀ t,OkL (iterV ins orc F t)
 | 0 => fun v hv => by
  obtain ⟨f,hf,rfl⟩:=List.mem_map.1 hv
  exact pen_ok
 | t + 1 => next_ok hF hi ho (iter_ok hF hi ho t)
theorem next_at (ins orc:List Fo) (F:List Fw) (vs:List Vl) (i:Nat) (hi:i < F.length):(nextV ins orc F vs)[i]'(by rw [next_len]; exact hi)=oneV ins orc F[i] (named F vs):=by
 unfold nextV; rw [List.getElem_map]
theorem one_congr {ins orc:List Fo} {f:Fw} {a b:List (ByteArray × Vl)} (h:f.kind ≠ 1->ofV a f.x=ofV b f.x):oneV ins orc f a=oneV ins orc f b:=by
 unfold oneV
 by_cases h1:f.kind=1
 ·rw [if_pos h1,if_pos h1]
 ·rw [if_neg h1,if_neg h1,h h1]
theorem agree {ins orc:List Fo} {F:List Fw} {ρ:ByteArray->Nat} {vs us:List Vl} {m:Nat} (hF:Wk F ρ) (hv:OkL vs) (hu:OkL us) (lv:vs.length=F.length) (lu:us.length=F.length)
  (h:∀ j (hj:j < F.length),ρ F[j].nm < m->vs[j]'(by omega)=us[j]'(by omega)) (i:Nat) (hi:i < F.length) (hr:ρ F[i].nm<=m) :
  oneV ins orc F[i] (named F vs)=oneV ins orc F[i] (named F us):=by
 refine one_congr fun h1 => ?_
 have hs:=hF.src F[i] (List.getElem_mem hi) h1
 rw [of_ev hv hs,of_ev hu hs]
 refine ev_local _ _ _ fun s hs' => ?_
 by_cases hex:∃ g ∈ F,g.nm=s
 ·have hlt:=hF.dep F[i] (List.getElem_mem hi) h1 s hs' hex
  obtain ⟨g,hg,rfl⟩:=hex
  obtain ⟨j,hj,rfl⟩:=List.getElem_of_mem hg
  rw [named_fact hF.apart lv j hj,named_fact hF.apart lu j hj]
  exact h j hj (by omega)
 ·rw [named_no lv fun f hf e => hex ⟨f,hf,e⟩,named_no lu fun f hf e => hex ⟨f,hf,e⟩]
theorem iter_at (ins orc:List Fo) (F:List Fw) (t i:Nat) (h:i < F.length):(iterV ins orc F (t + 1))[i]'(by rw [iter_len]; exact h)=oneV ins orc F[i] (named F (iterV ins orc F t)):=next_at ins orc F (iterV ins orc F t) i h
theorem stays {ins orc:List Fo} {F:List Fw} {ρ:ByteArray->Nat} (hF:Wk F ρ) (hi:Oks ins) (ho:Oks orc):∀ (m t u:Nat),m<=t->m<=u->∀ i (h:i < F.length),ρ F[i].nm < m →
  (iterV ins orc F t)[i]'(by rw [iter_len]; exact h)=(iterV ins orc F u)[i]'(by rw [iter_len]; exact h)
 | 0,_,_,_,_,_,_,hr => absurd hr (by omega)
 | m + 1,0,_,ht,_,_,_,_ => absurd ht (by omega)
 | m + 1,_ + 1,0,_,hu,_,_,_ => absurd hu (by omega)
 | m + 1,t + 1,u + 1,ht,hu,i,h,hr => by
  rw [iter_at _ _ _ _ i h,iter_at _ _ _ _ i h]
  exact agree hF (iter_ok hF hi ho t) (iter_ok hF hi ho u) (iter_len _ _ _ _) (iter_len _ _ _ _) (fun j hj hrj => stays hF hi ho m t u (by omega) (by omega) j hj hrj) i h (by omega)
theorem all_fix {ins orc:List Fo} {F:List Fw} {ρ:ByteArray->Nat} (hF:Wk F ρ) (hi:Oks ins) (ho:Oks orc):nextV ins orc F (allV ins orc F)=allV ins orc F:=by
 refine List.ext_getElem (by rw [next_len]; exact (iter_len _ _ _ _).symm) fun i h1 h2 => ?_
 rw [next_len] at h1
 exact stays hF hi ho F.length (F.length + 1) F.length (by omega) (by omega) i h1 (hF.lt _ (List.getElem_mem h1))
theorem all_len (ins orc:List Fo) (F:List Fw):(allV ins orc F).length=F.length:=iter_len _ _ _ _
theorem all_ok {ins orc:List Fo} {F:List Fw} {ρ:ByteArray->Nat} (hF:Wk F ρ) (hi:Oks ins) (ho:Oks orc):OkL (allV ins orc F):=iter_ok hF hi ho _
theorem all_at {ins orc:List Fo} {F:List Fw} {ρ:ByteArray->Nat} (hF:Wk F ρ) (hi:Oks ins) (ho:Oks orc) (i:Nat) (h:i < F.length):(allV ins orc F)[i]'(by rw [all_len]; exact h)=oneV ins orc F[i] (named F (allV ins orc F)):=by
 have e:=all_fix hF hi ho
 have:(nextV ins orc F (allV ins orc F))[i]'(by rw [next_len]; exact h)=(allV ins orc F)[i]'(by rw [all_len]; exact h):=by simp only [e]
 rw [← this,next_at _ _ _ _ i h]
theorem askF_take (nm:ByteArray) (key:Vl):∀ (l:List Fo) (m:Nat),askF (l.take m) nm key=askF l nm key ∨ (askF (l.take m) nm key).k=4
 | [],m => by rw [List.take_nil]; exact .inl rfl
 | o :: l,0 => .inr rfl
 | o :: l,m + 1 => by
  rw [List.take_succ_cons]
  unfold askF
  by_cases h:hitB nm key o=true
  ·rw [if_pos h,if_pos h]; exact .inl rfl
  ·rw [if_neg h,if_neg h]; exact askF_take nm key l m
theorem kn_kind {v:Vl} (h:knV v=true):v.k=1 ∨ v.k=2 ∨ v.k=3:=known_kind h
theorem ask_gro {orc:List Fo} {m:Nat} {nm:ByteArray} {key key':Vl} (h:Gro key key'):Gro (askV orc nm key) (askV (orc.take m) nm key'):=by
 unfold askV
 rcases h with h | h | ⟨h1,h2⟩
 ·left
  rw [if_neg fun hk => by have:=kn_kind hk; omega]
  exact h
 ·subst h
  by_cases hk:knV key=true
  ·rw [if_pos hk,if_pos hk]
   rcases askF_take nm key orc m with e | e
   ·right; left; exact e.symm
   ·left; exact e
  ·rw [if_neg hk,if_neg hk]; exact gro_refl _
 ·right; right
  rw [if_neg fun hk => by have:=kn_kind hk; omega,if_neg fun hk => by have:=kn_kind hk; omega]
  exact ⟨h1,h2⟩
def GroAll (F:List Fw) (vs us:List Vl):Prop:=∀ (i:Nat) (h:i < F.length) (h1:i < vs.length) (h2:i < us.length),Gro vs[i] us[i]
theorem named_gro {F:List Fw} {vs us:List Vl} (ha:Apart F) (lv:vs.length=F.length) (lu:us.length=F.length) (h:GroAll F vs us) (s:ByteArray):Gro (factV (named F vs) s) (factV (named F us) s):=by
 by_cases hex:∃ g ∈ F,g.nm=s
 ·obtain ⟨g,hg,rfl⟩:=hex
  obtain ⟨j,hj,rfl⟩:=List.getElem_of_mem hg
  rw [named_fact ha lv j hj,named_fact ha lu j hj]
  exact h j hj (by omega) (by omega)
 ·rw [named_no lv fun f hf e => hex ⟨f,hf,e⟩,named_no lu fun f hf e => hex ⟨f,hf,e⟩]
  exact gro_refl _
theorem iter_gro {ins orc:List Fo} {F:List Fw} {ρ:ByteArray->Nat} (hF:Wk F ρ) (hi:Oks ins) (ho:Oks orc) (m:Nat):∀ t,GroAll F (iterV ins orc F t) (iterV ins (orc.take m) F t)
 | 0 => fun i h h1 h2 => gro_refl _
 | t + 1 => fun i h h1 h2 => by
  have hm:Oks (orc.take m):=fun o hm => ho o (List.mem_of_mem_take hm)
  rw [iter_at _ _ _ _ i h,iter_at _ _ _ _ i h]
  have hg:=fun s => named_gro hF.apart (iter_len _ _ _ _) (iter_len _ _ _ _) (iter_gro hF hi ho m t) s
  unfold oneV
  by_cases h1:F[i].kind=1
  ·rw [if_pos h1,if_pos h1]; exact gro_refl _
  ·rw [if_neg h1,if_neg h1]
   have hs:=hF.src F[i] (List.getElem_mem h) h1
   rw [of_ev (iter_ok hF hi ho t) hs,of_ev (iter_ok hF hi hm t) hs]
   have he:=ev_gro hg F[i].x
   by_cases h3:F[i].kind=3
   ·rw [if_pos h3,if_pos h3]; exact ask_gro he
   ·rw [if_neg h3,if_neg h3]; exact he
theorem all_grows {ins orc:List Fo} {F:List Fw} {ρ:ByteArray->Nat} (hF:Wk F ρ) (hi:Oks ins) (ho:Oks orc) (m:Nat):GroAll F (allV ins orc F) (allV ins (orc.take m) F):=iter_gro hF hi ho m F.length
end WhM
end Go.Proofs.YtonlkmkfcaadlaaGreatDoor
