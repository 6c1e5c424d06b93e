/- EvEval: what these laws name of them. -/
import Derived.StringKeys
import Derived.Test.YtonlkmkfcaadlaaGreatDoorKw05
import Derived.Test.YtonlkmkfcaadlaaGreatDoorKw08
namespace Go.Proofs.YtonlkmkfcaadlaaGreatDoor
set_option linter.unusedVariables false
namespace EvF
open Go.RowKit Go.Maps
open NumM ValM StrM ExM TyM EvM Kit Ev EvC EvO ExL
set_option linter.unusedVariables false
def vA (v:Vl):Value:=.agg #[.int .i64 v.k,.int .i64 v.n,.string v.s]
def firstF:List (ByteArray × Vl)->ByteArray->Option Vl
 | [],_ => none
 | f :: l,s => if f.1=s then some f.2 else firstF l s
theorem firstF_fact (fs:List (ByteArray × Vl)) (s:ByteArray):factV fs s=(firstF fs s).getD (flt 5):=by
 induction fs with
 | nil => rfl
 | cons f l ih =>
  rw [factV,firstF]
  by_cases h:f.1=s
  ·rw [if_pos h,if_pos h]; rfl
  ·rw [if_neg h,if_neg h]; exact ih
theorem firstF_app (fs gs:List (ByteArray × Vl)) (s:ByteArray):firstF (fs ++ gs) s=match firstF fs s with | some v => some v | none => firstF gs s:=by
 induction fs with
 | nil => rfl
 | cons f l ih =>
  rw [List.cons_append,firstF,firstF]
  by_cases h:f.1=s
  ·rw [if_pos h,if_pos h]
  ·rw [if_neg h,if_neg h]; exact ih
def hv (v:Value):Option (DataW Value × List MemPlace):=some (.held v,[])
theorem strKeyed:Keyed Tryz.prog 9:=string_keyed Tryz.underlying9
theorem keyS {s:ByteArray} (h:s.size<=maxLen):keyOf Tryz.prog 9 (.string s)=some (.string s.data.toList):=WideMaps.keyOf_string_mk Tryz.underlying9 h
def datF (fs:List (ByteArray × Vl)) (s:ByteArray):DataW Value:=match firstF fs s with | some v => .held (vA v) | none => .nil
structure FM (W:World) (m:Nat) (fs:List (ByteArray × Vl)):Prop where
 own:∃ D,W.ownsMap Tryz.prog 9 hv m fs.length D/\∀ s:ByteArray,D.atKey (.string s.data.toList) .nil=datF fs s
theorem bytes_inj {s t:ByteArray} (h:s.data.toList=t.data.toList):s=t:=by
 cases s; cases t; congr; exact Array.toList_inj.1 h
theorem FM.made (w:World):FM (w.alloc (.map #[] 0)) w.heap.size []:=⟨_,World.ownsMap_made w _ _ _,fun s => rfl⟩
theorem FM.below {W W':World} {m:Nat} {fs:List (ByteArray × Vl)} (h:FM W m fs) (hb:Below W.heap.size W W'):FM W' m fs:=by
 obtain ⟨D,hD,hall⟩:=h.own
 have hg:W.grownBy W' none:=⟨hb.os,hb.tape,hb.output,hb.size,fun k hk _ => hb.block k hk⟩
 exact ⟨D,hD.kept hg (by simp),hall⟩
set_option maxRecDepth 100000 in
theorem FM.look {W:World} {m:Nat} {fs:List (ByteArray × Vl)} (h:FM W m fs) (s:ByteArray) (hs:s.size<=maxLen) :
  (Instr.lookup 118 (.map (some m)) (.string s) true).run Tryz.prog W=.ok (.tuple #[.agg #[.int .i64 ((firstF fs s).getD zeroV).k,.int .i64 ((firstF fs s).getD zeroV).n,.string ((firstF fs s).getD zeroV).s],.bool (firstF fs s).isSome]) W:=by
 obtain ⟨D,hD,hall⟩:=h.own
 have hx:=hall s
 obtain ⟨es,clock,hb,F,_,rfl⟩:=hD
 rcases Maps.fit_look true strKeyed Tryz.underlying118 (z:=.agg #[.int .i64 0,.int .i64 0,.string ⟨#[]⟩]) (by kernel_rfl) hb F (keyS hs) with ⟨hrun,_,hat⟩ | ⟨q,y,_,_,hrun,hRv,hat,_⟩
 ·rw [hat .nil] at hx
  unfold datF at hx
  rcases hf:firstF fs s with _ | v
  ·rw [hrun]; rfl
  ·rw [hf] at hx; cases hx
 ·rw [hat .nil] at hx
  have hy:y=(.held q.val,[]):=by
   have:hv q.val=some y:=hRv
   unfold hv at this; injection this with this; exact this.symm
  subst hy
  unfold datF at hx
  rcases hf:firstF fs s with _ | v
  ·rw [hf] at hx; cases hx
  ·rw [hf] at hx
   have h5:q.val=vA v:=by injection hx
   rw [hrun,h5]; rfl
theorem FM.put {W:World} {m:Nat} {fs:List (ByteArray × Vl)} (h:FM W m fs) (s:ByteArray) (hs:s.size<=maxLen) (v:Vl) (hn:fs.length < maxLen) (hnew:firstF fs s=none) :
  ∃ w',(Instr.mapUpdate 118 (.map (some m)) (.string s) (.agg #[.int .i64 v.k,.int .i64 v.n,.string v.s])).run Tryz.prog W=.ok () w'/\FM w' m (fs ++ [(s,v)])/\W.grownBy w' (some m):=by
 obtain ⟨D,hD,hall⟩:=h.own
 obtain ⟨w',hrun,r1,r2⟩:=hD.update strKeyed Tryz.underlying118 hn (keyS hs) (val:=vA v) (d:=.held (vA v)) (ps:=[]) rfl
 refine ⟨w',hrun,⟨_,by rw [List.length_append]; exact r1,fun t => ?_⟩,r2⟩
 unfold datF
 rw [firstF_app]
 by_cases he:t=s
 ·subst he
  rw [atKey_put_same hD.isMap (by trivial),hnew]
  simp [firstF]
 ·rw [atKey_put_other (fun e => he (bytes_inj (by injection e))),hall t]
  unfold datF
  rcases hf:firstF fs t with _ | u
  ·simp [firstF,Ne.symm he]
  ·rfl
theorem FM.skip {W:World} {m:Nat} {fs:List (ByteArray × Vl)} (h:FM W m fs) (s:ByteArray) (v:Vl) (hold:(firstF fs s).isSome=true):FM W m (fs ++ [(s,v)]):=by
 obtain ⟨D,⟨es,clock,hb,F,hs,e⟩,hall⟩:=h.own
 refine ⟨D,⟨es,clock,hb,F,by rw [List.length_append]; exact Nat.le_succ_of_le hs,e⟩,fun t => ?_⟩
 rw [hall t]
 unfold datF
 rw [firstF_app]
 rcases hf:firstF fs t with _ | u
 ·have he:s ≠ t:=fun e => by subst e; rw [hf] at hold; cases hold
  simp [firstF,he]
 ·rfl
end EvF
namespace EvS
open Go.RowKit Go.Maps
open NumM ValM StrM ExM TyM EvM Kit Ev EvC EvO EvF ExL
set_option linter.unusedVariables false
theorem look_none {W:World} {m:Nat} {fs:List (ByteArray × Vl)} (h:FM W m fs) (s:ByteArray) (hs:s.size<=maxLen) (hn:firstF fs s=none) :
  (Instr.lookup 118 (.map (some m)) (.string s) true).run Tryz.prog W=.ok (.tuple #[.agg #[.int .i64 0,.int .i64 0,.string ⟨#[]⟩],.bool false]) W:=by
 have:=h.look s hs
 rw [hn] at this; exact this
theorem look_some {W:World} {m:Nat} {fs:List (ByteArray × Vl)} (h:FM W m fs) (s:ByteArray) (hs:s.size<=maxLen) (k n:Int) (t:ByteArray) (hn:firstF fs s=some ⟨k,n,t⟩) :
  (Instr.lookup 118 (.map (some m)) (.string s) true).run Tryz.prog W=.ok (.tuple #[.agg #[.int .i64 k,.int .i64 n,.string t],.bool true]) W:=by
 have:=h.look s hs
 rw [hn] at this; exact this
set_option maxRecDepth 100000 in
set_option maxHeartbeats 1000000 in
theorem field_any (fs:List (ByteArray × Vl)) (m:Nat) (s:ByteArray) (hs:s.size<=maxLen) (w:World) (h:FM w m fs) :
  Calls Tryz.prog 91 #[.map (some m),.string s] w fun e w' => e=.returned (.agg #[.int .i64 (factV fs s).k,.int .i64 (factV fs s).n,.string (factV fs s).s])/\Below w.heap.size w w':=by
 have h2:=h.below (b_new w (.cells #[.int .i64 0,.int .i64 0,.string ⟨#[]⟩] 38))
 rw [firstF_fact]
 rcases hff:firstF fs s with _ | v
 ·simp only [Option.getD_none]
  have hl:=look_none h2 s hs hff
  clear h h2 hff
  go_enter Tryz.func91,Tryz.ntmps91
  go_wp2_with fail
  refine (fault_any _ _).mono ?_; rintro e w1 ⟨rfl,hb1⟩
  have hz:=(((BV.new w 0 0 ⟨#[]⟩).below (b_new _ (.cells #[.int .i64 0,.int .i64 0,.string ⟨#[]⟩] 38))).below hb1)
  obtain ⟨x0,x1,x2⟩:=hz.cells
  have y0:=hz.frozen
  have zl:=hz.lt
  go_wp2_with fail
  refine bodyPost_ret (v:=.agg #[.int .i64 5,.int .i64 5,.string ⟨#[]⟩]) (by simp [results,Tryz.results91,go_sem,x0,x1,x2]) rfl ⟨rfl,b_set3 (b_then (b_then hb1)) _ (Nat.le_refl _) _ _ _⟩
 ·obtain ⟨k,n,t⟩:=v
  simp only [Option.getD_some]
  have hl:=look_some h2 s hs k n t hff
  clear h h2 hff
  go_enter Tryz.func91,Tryz.ntmps91
  go_wp2_with fail
  refine bodyPost_ret (v:=.agg #[.int .i64 k,.int .i64 n,.string t]) (by simp [results,Tryz.results91,go_sem]) rfl ⟨rfl,b_more (b_new _ _) _⟩
theorem take_fcs (l:List Fc) (k:Nat) (h:k < l.length):fcs (l.take (k + 1))=fcs (l.take k) ++ [(l[k].nm,l[k].v)]:=by
 rw [take_at l k h]; unfold fcs; rw [List.map_append]; rfl
theorem b_grown {B:Nat} {a w w':World} {m:Nat} (h:Below B a w) (hg:w.grownBy w' (some m)) (hB:B<=w.heap.size) (hm:B<=m):Below B a w':=h.grown hg hB (fun k e => by injection e with e; omega)
set_option maxRecDepth 100000 in
set_option maxHeartbeats 2000000 in
theorem stated_any (l:List Fc) (A:Option Addr) (c:Nat) (w:World) (hl:l.length<=1000000000000) (hnm:∀ f ∈ l,f.nm.size<=maxLen) (h:Fcs w A l) :
  Calls Tryz.prog 72 #[.slice A l.length c] w fun e w' => (∃ mv,e=.returned (.tuple #[mv,.int .i64 (badF (fcs l))])/\(badF (fcs l)=0->∃ m,mv=.map (some m)/\FM w' m (fcs l)))/\Below w.heap.size w w':=by
 have HF:=Lib.hid h
 have HN:=Lib.hid hnm
 have hm0:=FM.made w
 have hbm:=b_new w (.map #[] 0)
 obtain ⟨W,hW⟩:∃ W,w.alloc (.map #[] 0)=W:=⟨_,rfl⟩
 rw [hW] at hm0 hbm
 have HW:=Lib.hid hW
 have HM:=Lib.hid hm0
 have HB:=Lib.hid hbm
 have hmm:=@run_makeMap Tryz.prog
 clear h hnm hm0 hbm hW
 go_enter Tryz.func72,Tryz.ntmps72
 go_wp2_with fail
 rw [HW.out]
 go_loopw [6,7,8,9,13] (fun _ _ _ _ i wr => ∃ k:Nat,i=.int .i64 k/\k<=l.length/\Below w.heap.size w wr/\FM wr w.heap.size (fcs (l.take k))/\(∀ j (hj:j < (fcs l).length),j < k->(fcs l)[j].2.ok)) (fun _ _ _ _ i _ => l.length - (intOf i).toNat)
 case atStart => exact ⟨0,rfl,by omega,HB.out,HM.out,fun j hj h => by omega⟩
 case round =>
  obtain ⟨k,rfl,hk,hb,hfm,hok⟩:=hrel
  have HBr:=Lib.hid hb
  have HFr:=Lib.hid hfm
  have HOk:=Lib.hid hok
  clear hb hfm hok
  by_cases hlt:k < l.length
  ·obtain ⟨a,rfl,hat⟩:=HF.out k hlt
   obtain ⟨h0,h1,h2,h3,h4,h5,h6⟩:=hat.below HBr.out
   have hns:=HN.out l[k] (List.getElem_mem hlt)
   obtain ⟨f,hf⟩:∃ f,l[k]=f:=⟨_,rfl⟩
   have HFk:=Lib.hid hf
   rw [hf] at h0 h1 h2 h3 h4 h5 h6 hns
   obtain ⟨nm,kk,kn,ks,⟨vk,vn,vs⟩⟩:=f
   simp only at h0 h1 h2 h3 h4 h5 h6 hns
   clear hf hat
   have hc:=fun W => Val.check_any vk vn vs W
   obtain ⟨e,he⟩:∃ e,valE vk vn vs.data.toList=e:=⟨_,rfl⟩
   rw [he] at hc
   have HC:=Lib.hid hc
   have HE:=Lib.hid he
   have HNs:=Lib.hid hns
   clear hc he hns
   go_wp2_with fail
   refine (HC.out _).mono ?_; rintro e1 w1 ⟨rfl,hb1⟩
   have hbx:w1.heap[wr.heap.size]?=some (.cells #[.string nm,.int .i64 kk,.int .i64 kn,.string ks,.int .i64 vk,.int .i64 vn,.string vs] 57 (0,0)):=(hb1.block _ (by simp)).trans (World.alloc_heap_new wr _)
   obtain ⟨b0,b4,b5,b6⟩:w1.cell? ⟨wr.heap.size,0,none⟩=some (.string nm)/\w1.cell? ⟨wr.heap.size,4,none⟩=some (.int .i64 vk)/\w1.cell? ⟨wr.heap.size,5,none⟩=some (.int .i64 vn)/\w1.cell? ⟨wr.heap.size,6,none⟩=some (.string vs) :=
    ⟨by simp [World.cell?,hbx],by simp [World.cell?,hbx],by simp [World.cell?,hbx],by simp [World.cell?,hbx]⟩
   have bl:wr.heap.size < w1.heap.size:=(Array.getElem?_eq_some_iff.1 hbx).1
   have hb2:Below wr.heap.size wr w1:=b_then hb1
   have hb3:Below w.heap.size w w1:=HBr.out.trans (hb2.mono HBr.out.size)
   have hfm1:=HFr.out.below hb2
   have HB3:=Lib.hid hb3
   have HF1:=Lib.hid hfm1
   clear h0 h1 h2 h3 h4 h5 h6 hb1 hbx hb2 hb3 hfm1
   by_cases he0:e=0
   ·subst he0
    have hokv:(fcs l)[k]'(by rw [fcs_len]; exact hlt) |>.2.ok:=by
     rw [fcs_at l k hlt,HFk.out]; exact HE.out
    have hokn:∀ j (hj:j < (fcs l).length),j < k + 1->(fcs l)[j].2.ok:=fun j hj h => by
     by_cases e:j=k
     ·subst e; exact hokv
     ·exact HOk.out j hj (by omega)
    have HOn:=Lib.hid hokn
    have htk:=take_fcs l k hlt
    rw [HFk.out] at htk
    simp only at htk
    have HTk:=Lib.hid htk
    clear hokv hokn htk
    rcases hff:firstF (fcs (l.take k)) nm with _ | v
    ·have hlook:=look_none HF1.out nm HNs.out hff
     obtain ⟨w3,hput,hfm3,hg3⟩:=(HF1.out.below (b_new w1 (.cells #[.int .i64 0,.int .i64 0,.string ⟨#[]⟩] 38))).put nm HNs.out ⟨vk,vn,vs⟩ (by rw [fcs_len,List.length_take]; unfold maxLen; omega) hff
     simp only at hput
     have HF3:=Lib.hid hfm3
     have HG3:=Lib.hid hg3
     have HFf:=Lib.hid hff
     clear hfm3 hg3 hff
     go_wp2_with fail
     go_roundw
     case rel => exact ⟨k + 1,by go_num,by omega,b_grown (b_more HB3.out _) HG3.out (by have:=HB3.out.size; simp; omega) (Nat.le_refl _),by rw [HTk.out]; exact HF3.out,HOn.out⟩
     case measure => simp [intOf]; omega
    ·obtain ⟨uk,un,us⟩:=v
     have hlook:=look_some HF1.out nm HNs.out uk un us hff
     have hsk:=HF1.out.skip nm ⟨vk,vn,vs⟩ (by rw [hff]; rfl)
     have HSk:=Lib.hid (hsk.below (b_new w1 (.cells #[.int .i64 uk,.int .i64 un,.string us] 38)))
     clear hsk hff
     go_wp2_with fail
     go_roundw
     case rel => exact ⟨k + 1,by go_num,by omega,b_more HB3.out _,by rw [HTk.out]; exact HSk.out,HOn.out⟩
     case measure => simp [intOf]; omega
   ·have t0:(e == 0)=false:=beq_eq_false_iff_ne.2 he0
    have hbad:badF (fcs l)=e:=by
     have hk':k < (fcs l).length:=by rw [fcs_len]; exact hlt
     have:=badF_hit (fcs l) k hk' HOk.out (by rw [fcs_at l k hlt,HFk.out]; unfold Vl.ok; simp only; rw [HE.out]; exact he0)
     rw [this,fcs_at l k hlt,HFk.out]; exact HE.out
    have HBd:=Lib.hid hbad
    clear hbad
    go_wp2_with fail
    go_ret2
    exact ⟨⟨.map none,congrArg (fun x => Ending.returned (.tuple #[.map none,.int .i64 x])) HBd.out.symm,fun h => absurd (HBd.out.symm.trans h) he0⟩,HB3.out⟩
  ·have hkl:k=l.length:=by omega
   subst hkl
   have h0:badF (fcs l)=0:=(badF_zero _).2 fun f hf => by
    obtain ⟨j,hj,rfl⟩:=List.getElem_of_mem hf
    exact HOk.out j hj (by rw [fcs_len] at hj; exact hj)
   have hfm:=HFr.out
   rw [List.take_length] at hfm
   have H0:=Lib.hid h0
   have HFm:=Lib.hid hfm
   clear h0 hfm
   go_wp2_with fail
   go_ret2
   exact ⟨⟨.map (some w.heap.size),congrArg (fun x => Ending.returned (.tuple #[.map (some w.heap.size),.int .i64 x])) H0.out.symm,fun _ => ⟨_,rfl,HFm.out⟩⟩,HBr.out⟩
end EvS
namespace EvN
open Go.RowKit Go.Maps
open NumM ValM StrM ExM TyM EvM Kit Ev EvC EvO EvF EvS ExL ExV
set_option linter.unusedVariables false
def EvAt (fs:List (ByteArray × Vl)) (m:Nat) (x:Ex):Prop:=∀ (d:Nd) (A:Option Addr) (n c:Nat) (w:World),Is w x d A n->FM w m fs →
  Calls Tryz.prog 73 #[.map (some m),.agg #[.int .i64 d.op,.int .i64 d.k,.int .i64 d.n,.string d.s,.string d.nm,.slice A n c]] w fun e w' => e=.returned (.agg #[.int .i64 (Ex.ev fs x).k,.int .i64 (Ex.ev fs x).n,.string (Ex.ev fs x).s])/\Below w.heap.size w w'
set_option maxRecDepth 100000 in
set_option maxHeartbeats 1000000 in
theorem condition_any (fs : List (ByteArray × Vl)) (m : Nat) (x : Ex) (hx : EvAt fs m x) (d : Nd) (A : Option Addr) (n c : Nat) (w : World) (his : Is w x d A n) (hm : FM w m fs) :
    Calls Tryz.prog 118 #[.map (some m), .agg #[.int .i64 d.op, .int .i64 d.k, .int .i64 d.n, .string d.s, .string d.nm, .slice A n c]] w fun e w' => e = .returned (.agg #[.int .i64 (condV (Ex.ev fs x)).k, .int .i64 (condV (Ex.ev fs x)).n, .string (condV (Ex.ev fs x)).s]) ∧ Below w.heap.size w w' := by
  have hb0 := b_new w (.cells #[.int .i64 d.op, .int .i64 d.k, .int .i64 d.n, .string d.s, .string d.nm, .slice A n c] 41)
  have hb1 := b_more hb0 (.cells #[.int .i64 0, .int .i64 0, .string ⟨#[]⟩] 38)
  have hz0 := BV.new (w.alloc (.cells #[.int .i64 d.op, .int .i64 d.k, .int .i64 d.n, .string d.s, .string d.nm, .slice A n c] 41)) 0 0 ⟨#[]⟩
  rw [World.size_alloc] at hz0
  have hc := fun W (hb : Below w.heap.size w W) => hx d A n c W (his.below hb) (hm.below hb)
  obtain ⟨v, hv⟩ : ∃ v, Ex.ev fs x = v := ⟨_, rfl⟩
  rw [hv] at hc ⊢
  obtain ⟨vk, vn, vs⟩ := v
  simp only at hc
  have HC := Lib.hid hc
  have HZ := Lib.hid hz0
  have HB := Lib.hid hb1
  obtain ⟨r, hr⟩ : ∃ r, condV ⟨vk, vn, vs⟩ = r := ⟨_, rfl⟩
  rw [hr]
  have HR := Lib.hid hr
  clear hc hv his hm hx hb0 hb1 hz0 hr
  go_enter Tryz.func118, Tryz.ntmps118
  go_wp2_with fail
  refine (HC.out _ HB.out).mono ?_; rintro e w1 ⟨rfl, hb2⟩
  have hz1 := HZ.out.below hb2
  have hb3 := b_then (b_then hb2)
  have HZ1 := Lib.hid hz1
  have HB3 := Lib.hid hb3
  have zl := hz1.lt
  obtain ⟨x0, x1, x2⟩ := hz1.cells
  have y0 := hz1.frozen
  clear hb2 hz1 hb3
  by_cases hk : vk = 1 ∨ vk = 3
  · obtain rfl : r = ⟨5, 9, ⟨#[]⟩⟩ := by rw [← HR.out]; unfold condV; rw [if_pos hk]; rfl
    clear HR
    rcases hk with rfl | rfl
    all_goals (go_wp2_with fail
               refine (fault_any _ _).mono ?_; rintro e w2 ⟨rfl, hb4⟩
               have hz2 := (HZ1.out.below (b_new _ _)).below hb4
               have hb5 := b_set3 (b_trans (b_more HB3.out _) hb4) (w.heap.size + 1) (by omega) (.int .i64 5) (.int .i64 9) (.string ⟨#[]⟩)
               obtain ⟨u0, u1, u2⟩ := hz2.cells
               have v0 := hz2.frozen
               have zl2 := hz2.lt
               clear hz2 x0 x1 x2 y0 hb4
               go_wp2_with fail
               refine bodyPost_ret (v := .agg #[.int .i64 5, .int .i64 9, .string ⟨#[]⟩]) (by simp [results, Tryz.results118, go_sem, u0, u1, u2]) rfl ⟨rfl, hb5⟩)
  · obtain rfl : r = ⟨vk, vn, vs⟩ := by rw [← HR.out]; unfold condV; rw [if_neg hk]
    have t1 : (vk == 1) = false := beq_eq_false_iff_ne.2 (fun h => hk (.inl h))
    have t3 : (vk == 3) = false := beq_eq_false_iff_ne.2 (fun h => hk (.inr h))
    have kS := HZ1.out.set3 vk vn vs
    have kY := kS.below (b_new _ (.cells #[.int .i64 vk, .int .i64 vn, .string vs] 38))
    have hbY := b_more (b_set3 HB3.out (w.heap.size + 1) (by omega) (.int .i64 vk) (.int .i64 vn) (.string vs)) (.cells #[.int .i64 vk, .int .i64 vn, .string vs] 38)
    have KY := Lib.hid kY
    have KB := Lib.hid hbY
    clear kS kY hbY HR hk
    go_wp2_with fail
    have kY := KY.out
    have hbY := KB.out
    clear KY KB
    generalize hY : World.alloc _ _ = Y at kY hbY ⊢
    obtain ⟨u0, u1, u2⟩ := kY.cells
    clear hY kY x0 x1 x2 y0
    refine bodyPost_ret (v := .agg #[.int .i64 vk, .int .i64 vn, .string vs]) (by simp [results, Tryz.results118, go_sem, u0, u1, u2]) rfl ⟨rfl, hbY⟩
theorem add0 (a:Addr):a.add (0 * 6)=a:=by simp [Addr.add]
theorem add6 (a:Addr):a.add (1 * 6)=⟨a.block,a.off + 6,none⟩:=by simp [Addr.add]
theorem add12 (a:Addr):a.add (2 * 6)=⟨a.block,a.off + 12,none⟩:=by simp [Addr.add]
theorem arg_at {w:World} {d:Nd} {l:List Ex} {A:Option Addr} {n:Nat} (h:Is w (.mk d l) d A n) (h0:0 < l.length):∃ a,A=some a/\∀ (j:Nat) (hj:j < l.length),∃ d2 B m c,At w (a.add (j * 6)) d2 B m c/\Is w l[j] d2 B m:=by
 obtain ⟨_,_,_,hl⟩:=is_mk.1 h
 obtain ⟨a,_,_,_,_,hA,_⟩:=hl 0 h0
 refine ⟨a,hA,fun j hj => ?_⟩
 obtain ⟨a',d2,B,m,c,hA',h1,h2⟩:=hl j hj
 obtain rfl:a=a':=by rw [hA] at hA'; injection hA'
 exact ⟨d2,B,m,c,h1,h2⟩
theorem tru_of {v:Vl} (h:v.ok) (hk:v.k=2):v=⟨2,0,⟨#[]⟩⟩ ∨ v=⟨2,1,⟨#[]⟩⟩:=by
 obtain ⟨k,n,s⟩:=v
 simp only at hk
 subst hk
 rcases ok_cases h with g | ⟨_,g,g2⟩ | g | g | g
 ·exact absurd (show (2:Int)=1 from g.1) (by decide)
 ·have g2:s=⟨#[]⟩:=g2
  have g:n=0 ∨ n=1:=g
  rcases g with g | g
  ·left; rw [g,g2]
  ·right; rw [g,g2]
 ·exact absurd (show (2:Int)=3 from g.1) (by decide)
 ·exact absurd (show (2:Int)=4 from g.1) (by decide)
 ·exact absurd (show (2:Int)=5 from g.1) (by decide)
set_option maxRecDepth 100000 in
set_option maxHeartbeats 2000000 in
theorem choice_any (fs : List (ByteArray × Vl)) (m : Nat) (x0 x1 x2 : Ex) (h0 : EvAt fs m x0) (h1 : EvAt fs m x1) (h2 : EvAt fs m x2) (hok : (Ex.ev fs x0).ok) (d : Nd) (A : Option Addr) (c : Nat) (w : World) (his : Is w (.mk d [x0, x1, x2]) d A 3) (hm : FM w m fs) :
    Calls Tryz.prog 92 #[.map (some m), .agg #[.int .i64 d.op, .int .i64 d.k, .int .i64 d.n, .string d.s, .string d.nm, .slice A 3 c]] w fun e w' => e = .returned (.agg #[.int .i64 (choV [Ex.ev fs x0, Ex.ev fs x1, Ex.ev fs x2]).k, .int .i64 (choV [Ex.ev fs x0, Ex.ev fs x1, Ex.ev fs x2]).n, .string (choV [Ex.ev fs x0, Ex.ev fs x1, Ex.ev fs x2]).s]) ∧ Below w.heap.size w w' := by
  obtain ⟨a, rfl, harg⟩ := arg_at his (by simp)
  obtain ⟨d0, B0, m0, c0, hat0, hi0⟩ := harg 0 (by simp)
  obtain ⟨d1, B1, m1, c1, hat1, hi1⟩ := harg 1 (by simp)
  obtain ⟨d2, B2, m2, c2, hat2, hi2⟩ := harg 2 (by simp)
  simp only [List.getElem_cons_zero, List.getElem_cons_succ] at hi0 hi1 hi2
  rw [add0] at hat0
  rw [add6] at hat1
  rw [add12] at hat2
  obtain ⟨r, hr⟩ : ∃ r, choV [Ex.ev fs x0, Ex.ev fs x1, Ex.ev fs x2] = r := ⟨_, rfl⟩
  rw [hr]
  have hc := fun W (hb : Below w.heap.size w W) => condition_any fs m x0 h0 d0 B0 m0 c0 W (hi0.below hb) (hm.below hb)
  have hc1 := fun W (hb : Below w.heap.size w W) => h1 d1 B1 m1 c1 W (hi1.below hb) (hm.below hb)
  have hc2 := fun W (hb : Below w.heap.size w W) => h2 d2 B2 m2 c2 W (hi2.below hb) (hm.below hb)
  have hfk : ∀ v, condV (Ex.ev fs x0) = v → v.k = 2 → Ex.ev fs x0 = v := fun v hv hk => by
    rw [← hv]; rw [← hv] at hk
    unfold condV at hk ⊢
    split at hk
    · exact absurd hk (by decide)
    · rename_i h; rw [if_neg h]
  have hfok := cond_ok hok
  obtain ⟨f, hf⟩ : ∃ f, condV (Ex.ev fs x0) = f := ⟨_, rfl⟩
  rw [hf] at hc hfok
  have hres2 : f.k ≠ 2 → r = f := fun h => by rw [← hr]; unfold choV; simp only [List.getD_cons_zero]; rw [hf, if_neg h]
  have hres1 : ∀ n, f = ⟨2, n, ⟨#[]⟩⟩ → r = if n = 1 then Ex.ev fs x1 else Ex.ev fs x2 := fun n h => by
    rw [← hr]; unfold choV; simp only [List.getD_cons_zero, List.getD_cons_succ]
    rw [hf, h, if_pos rfl, hfk f hf (by rw [h]), h]
  obtain ⟨v1, hv1⟩ : ∃ v, Ex.ev fs x1 = v := ⟨_, rfl⟩
  obtain ⟨v2, hv2⟩ : ∃ v, Ex.ev fs x2 = v := ⟨_, rfl⟩
  rw [hv1] at hc1
  rw [hv2] at hc2
  rw [hv1, hv2] at hres1
  have hb0 := b_new w (.cells #[.int .i64 d.op, .int .i64 d.k, .int .i64 d.n, .string d.s, .string d.nm, .slice (some a) 3 c] 41)
  have hb1 := b_more hb0 (.cells #[.int .i64 0, .int .i64 0, .string ⟨#[]⟩] 38)
  have hz0 := BV.new (w.alloc (.cells #[.int .i64 d.op, .int .i64 d.k, .int .i64 d.n, .string d.s, .string d.nm, .slice (some a) 3 c] 41)) 0 0 ⟨#[]⟩
  have hbx := (Box.new w d (some a) 3 c).below (b_new _ (.cells #[.int .i64 0, .int .i64 0, .string ⟨#[]⟩] 38))
  rw [World.size_alloc] at hz0
  obtain ⟨p0, p1, p2, p3, p4, p5⟩ := hat0.below hb1
  have HC := Lib.hid hc
  have HC1 := Lib.hid hc1
  have HC2 := Lib.hid hc2
  have HZ := Lib.hid hz0
  have HB := Lib.hid hb1
  have HBx := Lib.hid hbx
  have H1 := Lib.hid hat1
  have H2 := Lib.hid hat2
  have HR1 := Lib.hid hres1
  have HR2 := Lib.hid hres2
  have HFo := Lib.hid hfok
  clear hc hc1 hc2 hz0 hb0 hb1 hbx hat0 hat1 hat2 hres1 hres2 hfok hf hfk hr hv1 hv2 his hm hi0 hi1 hi2 harg hok h0 h1 h2
  obtain ⟨fk, fn, ft⟩ := f
  obtain ⟨v1k, v1n, v1s⟩ := v1
  obtain ⟨v2k, v2n, v2s⟩ := v2
  go_enter Tryz.func92, Tryz.ntmps92
  go_wp2_with fail
  refine (HC.out _ HB.out).mono ?_; rintro e w1 ⟨rfl, hb2⟩
  have hz1 := HZ.out.below hb2
  have hb3 := b_then (b_then hb2)
  have HZ1 := Lib.hid hz1
  have HB3 := Lib.hid hb3
  have HBx1 := Lib.hid (HBx.out.below hb2)
  have zl := hz1.lt
  clear hz1 hb3 hb2 p0 p1 p2 p3 p4 p5
  by_cases hk : fk = 2
  · subst hk
    rcases tru_of HFo.out rfl with he | he
    all_goals (injection he with _ he1 he2; subst he1 he2)
    · obtain rfl : r = ⟨v2k, v2n, v2s⟩ := (HR1.out 0 rfl).trans (if_neg (by decide))
      have hz2 := HZ1.out.below (b_new w1 (.cells #[.int .i64 2, .int .i64 0, .string ⟨#[]⟩] 38))
      have HZ2 := Lib.hid hz2
      have HBx2 := Lib.hid (HBx1.out.below (b_new w1 (.cells #[.int .i64 2, .int .i64 0, .string ⟨#[]⟩] 38)))
      have HB4 := Lib.hid (b_more HB3.out (.cells #[.int .i64 2, .int .i64 0, .string ⟨#[]⟩] 38))
      have hbl := Below.refl (w1.alloc (.cells #[.int .i64 2, .int .i64 0, .string ⟨#[]⟩] 38)).heap.size (w1.alloc (.cells #[.int .i64 2, .int .i64 0, .string ⟨#[]⟩] 38))
      clear hz2
      go_wp2_with fail
      go_region_with (go_at_call 119; refine (truth_t _).mono ?_; rintro e w2 ⟨rfl, hb5⟩; have hbl := (by first | exact b_step hbl hb5 | exact b_step (b_drew hbl) hb5 | exact b_step hbl (b_undrew hb5) : Below (w1.alloc (.cells #[.int .i64 2, .int .i64 0, .string ⟨#[]⟩] 38)).heap.size (w1.alloc (.cells #[.int .i64 2, .int .i64 0, .string ⟨#[]⟩] 38)) w2); obtain ⟨q1, q2⟩ := bcell hbl; have z1 := zlt hbl)
      all_goals (have hz3 := HZ2.out.below hbl
                 have hx3 := HBx2.out.below hbl
                 have hb6 := b_trans HB4.out hbl
                 obtain ⟨n0, n1, n2, n3, n4, n5⟩ := hx3.cells
                 obtain ⟨s0, s1, s2, s3, s4, s5⟩ := H2.out.below hb6
                 have HZ3 := Lib.hid hz3
                 have HB6 := Lib.hid hb6
                 clear q1 q2 z1 hbl hx3 hz3 hb6 hb5
                 go_wp2_with fail
                 refine (HC2.out _ HB6.out).mono ?_; rintro e w3 ⟨rfl, hb7⟩
                 have hz4 := HZ3.out.below hb7
                 have hbE := b_set3 (b_trans HB6.out hb7) (w.heap.size + 1) (by omega) (.int .i64 v2k) (.int .i64 v2n) (.string v2s)
                 obtain ⟨u0, u1, u2⟩ := hz4.cells
                 have v0 := hz4.frozen
                 have zl2 := hz4.lt
                 clear hz4 hb7 n0 n1 n2 n3 n4 n5 s0 s1 s2 s3 s4 s5
                 go_wp2_with fail
                 refine bodyPost_ret (v := .agg #[.int .i64 v2k, .int .i64 v2n, .string v2s]) (by simp [results, Tryz.results92, go_sem, u0, u1, u2]) rfl ⟨rfl, hbE⟩)
    · obtain rfl : r = ⟨v1k, v1n, v1s⟩ := (HR1.out 1 rfl).trans (if_pos rfl)
      have hz2 := HZ1.out.below (b_new w1 (.cells #[.int .i64 2, .int .i64 1, .string ⟨#[]⟩] 38))
      have HZ2 := Lib.hid hz2
      have HBx2 := Lib.hid (HBx1.out.below (b_new w1 (.cells #[.int .i64 2, .int .i64 1, .string ⟨#[]⟩] 38)))
      have HB4 := Lib.hid (b_more HB3.out (.cells #[.int .i64 2, .int .i64 1, .string ⟨#[]⟩] 38))
      have hbl := Below.refl (w1.alloc (.cells #[.int .i64 2, .int .i64 1, .string ⟨#[]⟩] 38)).heap.size (w1.alloc (.cells #[.int .i64 2, .int .i64 1, .string ⟨#[]⟩] 38))
      clear hz2
      go_wp2_with fail
      go_region_with (go_at_call 119; refine (truth_t _).mono ?_; rintro e w2 ⟨rfl, hb5⟩; have hbl := (by first | exact b_step hbl hb5 | exact b_step (b_drew hbl) hb5 | exact b_step hbl (b_undrew hb5) : Below (w1.alloc (.cells #[.int .i64 2, .int .i64 1, .string ⟨#[]⟩] 38)).heap.size (w1.alloc (.cells #[.int .i64 2, .int .i64 1, .string ⟨#[]⟩] 38)) w2); obtain ⟨q1, q2⟩ := bcell hbl; have z1 := zlt hbl)
      all_goals (have hz3 := HZ2.out.below hbl
                 have hx3 := HBx2.out.below hbl
                 have hb6 := b_trans HB4.out hbl
                 obtain ⟨n0, n1, n2, n3, n4, n5⟩ := hx3.cells
                 obtain ⟨s0, s1, s2, s3, s4, s5⟩ := H1.out.below hb6
                 have HZ3 := Lib.hid hz3
                 have HB6 := Lib.hid hb6
                 clear q1 q2 z1 hbl hx3 hz3 hb6 hb5
                 go_wp2_with fail
                 refine (HC1.out _ HB6.out).mono ?_; rintro e w3 ⟨rfl, hb7⟩
                 have hz4 := HZ3.out.below hb7
                 have hbE := b_set3 (b_trans HB6.out hb7) (w.heap.size + 1) (by omega) (.int .i64 v1k) (.int .i64 v1n) (.string v1s)
                 obtain ⟨u0, u1, u2⟩ := hz4.cells
                 have v0 := hz4.frozen
                 have zl2 := hz4.lt
                 clear hz4 hb7 n0 n1 n2 n3 n4 n5 s0 s1 s2 s3 s4 s5
                 go_wp2_with fail
                 refine bodyPost_ret (v := .agg #[.int .i64 v1k, .int .i64 v1n, .string v1s]) (by simp [results, Tryz.results92, go_sem, u0, u1, u2]) rfl ⟨rfl, hbE⟩)
  · obtain rfl : r = ⟨fk, fn, ft⟩ := HR2.out hk
    have tk : (fk == 2) = false := beq_eq_false_iff_ne.2 hk
    obtain ⟨u0, u1, u2⟩ := HZ1.out.cells
    have v0 := HZ1.out.frozen
    have kS := HZ1.out.set3 fk fn ft
    have kY := kS.below (b_new _ (.cells #[.int .i64 fk, .int .i64 fn, .string ft] 38))
    have hbY := b_more (b_set3 HB3.out (w.heap.size + 1) (by omega) (.int .i64 fk) (.int .i64 fn) (.string ft)) (.cells #[.int .i64 fk, .int .i64 fn, .string ft] 38)
    have KY := Lib.hid kY
    have KB := Lib.hid hbY
    clear kS kY hbY
    go_wp2_with fail
    have kY := KY.out
    have hbY := KB.out
    clear KY KB
    generalize hY : World.alloc _ _ = Y at kY hbY ⊢
    obtain ⟨t0, t1, t2⟩ := kY.cells
    clear hY kY u0 u1 u2 v0
    refine bodyPost_ret (v := .agg #[.int .i64 fk, .int .i64 fn, .string ft]) (by simp [results, Tryz.results92, go_sem, t0, t1, t2]) rfl ⟨rfl, hbY⟩
set_option maxRecDepth 100000 in
set_option maxHeartbeats 4000000 in
theorem con_and (fs : List (ByteArray × Vl)) (m : Nat) (x0 x1 : Ex) (h0 : EvAt fs m x0) (h1 : EvAt fs m x1) (hok : (Ex.ev fs x0).ok) (d : Nd) (hd : d.op = 15) (A : Option Addr) (c : Nat) (w : World) (his : Is w (.mk d [x0, x1]) d A 2) (hm : FM w m fs) :
    Calls Tryz.prog 93 #[.map (some m), .agg #[.int .i64 d.op, .int .i64 d.k, .int .i64 d.n, .string d.s, .string d.nm, .slice A 2 c]] w fun e w' => e = .returned (.agg #[.int .i64 (conV true [Ex.ev fs x0, Ex.ev fs x1]).k, .int .i64 (conV true [Ex.ev fs x0, Ex.ev fs x1]).n, .string (conV true [Ex.ev fs x0, Ex.ev fs x1]).s]) ∧ Below w.heap.size w w' := by
  obtain ⟨a, rfl, harg⟩ := arg_at his (by simp)
  obtain ⟨d0, B0, m0, c0, hat0, hi0⟩ := harg 0 (by simp)
  obtain ⟨d1, B1, m1, c1, hat1, hi1⟩ := harg 1 (by simp)
  simp only [List.getElem_cons_zero, List.getElem_cons_succ] at hi0 hi1
  rw [add0] at hat0
  rw [add6] at hat1
  obtain ⟨r, hr⟩ : ∃ r, conV true [Ex.ev fs x0, Ex.ev fs x1] = r := ⟨_, rfl⟩
  rw [hr]
  have hc := fun W (hb : Below w.heap.size w W) => condition_any fs m x0 h0 d0 B0 m0 c0 W (hi0.below hb) (hm.below hb)
  have hc1 := fun W (hb : Below w.heap.size w W) => condition_any fs m x1 h1 d1 B1 m1 c1 W (hi1.below hb) (hm.below hb)
  have hfk : ∀ v, condV (Ex.ev fs x0) = v → v.k = 2 → Ex.ev fs x0 = v := fun v hv hk => by
    rw [← hv]; rw [← hv] at hk
    unfold condV at hk ⊢
    split at hk
    · exact absurd hk (by decide)
    · rename_i h; rw [if_neg h]
  have hkf : (condV (Ex.ev fs x0)).k ≠ 2 → (Ex.ev fs x0).k ≠ 2 := fun h h2 => h (by unfold condV; rw [if_neg (by omega)]; exact h2)
  have hfok := cond_ok hok
  have hfk45 : (condV (Ex.ev fs x0)).k ≠ 1 ∧ (condV (Ex.ev fs x0)).k ≠ 3 := by
    unfold condV; split
    · exact ⟨by decide, by decide⟩
    · rename_i h; exact ⟨fun g => h (.inl g), fun g => h (.inr g)⟩
  obtain ⟨f, hf⟩ : ∃ f, condV (Ex.ev fs x0) = f := ⟨_, rfl⟩
  have hres2 : f.k ≠ 2 → r = f := fun h => by rw [← hf] at h; rw [← hr]; unfold conV; simp only [List.getD_cons_zero, List.getD_cons_succ]; rw [if_neg (fun g => hkf h g.1), hf]
  have hres1 : ∀ n, f = ⟨2, n, ⟨#[]⟩⟩ → r = if n = bitI true then condV (Ex.ev fs x1) else f := fun n h => by
    have e := hfk f hf (by rw [h])
    rw [← hr]; unfold conV; simp only [List.getD_cons_zero, List.getD_cons_succ]
    rw [hf, e, h]
    by_cases g : n = bitI true
    · rw [if_pos ⟨rfl, g⟩, if_pos g]
    · rw [if_neg (fun q => g q.2), if_neg g]
  rw [hf] at hc hfok hfk45
  obtain ⟨v1, hv1⟩ : ∃ v, condV (Ex.ev fs x1) = v := ⟨_, rfl⟩
  rw [hv1] at hc1 hres1
  have hb0 := b_new w (.cells #[.int .i64 d.op, .int .i64 d.k, .int .i64 d.n, .string d.s, .string d.nm, .slice (some a) 2 c] 41)
  have hb1 := b_more hb0 (.cells #[.int .i64 0, .int .i64 0, .string ⟨#[]⟩] 38)
  have hz0 := BV.new (w.alloc (.cells #[.int .i64 d.op, .int .i64 d.k, .int .i64 d.n, .string d.s, .string d.nm, .slice (some a) 2 c] 41)) 0 0 ⟨#[]⟩
  have hbx := (Box.new w d (some a) 2 c).below (b_new _ (.cells #[.int .i64 0, .int .i64 0, .string ⟨#[]⟩] 38))
  rw [World.size_alloc] at hz0
  obtain ⟨dop, dk, dn, ds, dnm⟩ := d
  obtain rfl : dop = 15 := hd
  obtain ⟨p0, p1, p2, p3, p4, p5⟩ := hat0.below hb1
  have HC := Lib.hid hc
  have HC1 := Lib.hid hc1
  have HZ := Lib.hid hz0
  have HB := Lib.hid hb1
  have HBx := Lib.hid hbx
  have H1 := Lib.hid hat1
  have HR1 := Lib.hid hres1
  have HR2 := Lib.hid hres2
  have HFo := Lib.hid hfok
  have HF45 := Lib.hid hfk45
  clear hc hc1 hz0 hb0 hb1 hbx hat0 hat1 hres1 hres2 hfok hf hfk hkf hr hv1 his hm hi0 hi1 harg hok h0 h1 hfk45
  obtain ⟨fk, fn, ft⟩ := f
  obtain ⟨v1k, v1n, v1s⟩ := v1
  go_enter Tryz.func93, Tryz.ntmps93
  go_wp2_with fail
  refine (HC.out _ HB.out).mono ?_; rintro e w1 ⟨rfl, hb2⟩
  have hz1 := HZ.out.below hb2
  have hb3 := b_then (b_then hb2)
  have HZ1 := Lib.hid hz1
  have HB3 := Lib.hid hb3
  have HBx1 := Lib.hid (HBx.out.below hb2)
  have zl := hz1.lt
  clear hz1 hb3 hb2 p0 p1 p2 p3 p4 p5
  have hin : fk ≠ 2 → fk = 4 ∨ fk = 5 := fun h => by have h1 := ok_kind HFo.out; have h2 := HF45.out; simp only at h1 h2; omega
  have HIn := Lib.hid hin
  clear hin
  by_cases hk : fk = 2
  · subst hk
    rcases tru_of HFo.out rfl with he | he
    all_goals (injection he with _ he1 he2; subst he1 he2)
    · obtain rfl : r = ⟨2, 0, ⟨#[]⟩⟩ := (HR1.out 0 rfl).trans (if_neg (by decide))
      have hz2 := HZ1.out.below (b_new w1 (.cells #[.int .i64 2, .int .i64 0, .string ⟨#[]⟩] 38))
      have HZ2 := Lib.hid hz2
      have HBx2 := Lib.hid (HBx1.out.below (b_new w1 (.cells #[.int .i64 2, .int .i64 0, .string ⟨#[]⟩] 38)))
      have HB4 := Lib.hid (b_more HB3.out (.cells #[.int .i64 2, .int .i64 0, .string ⟨#[]⟩] 38))
      have HV := Lib.hid (BV.new w1 2 0 ⟨#[]⟩)
      have hbl := Below.refl (w1.alloc (.cells #[.int .i64 2, .int .i64 0, .string ⟨#[]⟩] 38)).heap.size (w1.alloc (.cells #[.int .i64 2, .int .i64 0, .string ⟨#[]⟩] 38))
      obtain ⟨g0, g1, g2, g3, g4, g5⟩ := HBx2.out.cells
      clear hz2
      go_wp2_with fail
      go_region_with (go_at_call 119; refine (truth_t _).mono ?_; rintro e w2 ⟨rfl, hb5⟩; have hbl := (by first | exact b_step hbl hb5 | exact b_step (b_drew hbl) hb5 | exact b_step hbl (b_undrew hb5) : Below (w1.alloc (.cells #[.int .i64 2, .int .i64 0, .string ⟨#[]⟩] 38)).heap.size (w1.alloc (.cells #[.int .i64 2, .int .i64 0, .string ⟨#[]⟩] 38)) w2); obtain ⟨q1, q2⟩ := bcell hbl; have z1 := zlt hbl)
      all_goals (have hz3 := HZ2.out.below hbl
                 have hb6 := b_trans HB4.out hbl
                 have hv3 := HV.out.below hbl
                 obtain ⟨n0, n1, n2⟩ := hv3.cells
                 obtain ⟨u0, u1, u2⟩ := hz3.cells
                 have v0 := hz3.frozen
                 have zl2 := hz3.lt
                 have hbE := b_set3 hb6 (w.heap.size + 1) (by omega) (.int .i64 2) (.int .i64 0) (.string ⟨#[]⟩)
                 clear q1 q2 z1 hbl hz3 hb6 hv3 g0 g1 g2 g3 g4 g5
                 go_wp2_with fail
                 refine bodyPost_ret (v := .agg #[.int .i64 2, .int .i64 0, .string ⟨#[]⟩]) (by simp [results, Tryz.results93, go_sem, u0, u1, u2]) rfl ⟨rfl, hbE⟩)
    · obtain rfl : r = ⟨v1k, v1n, v1s⟩ := (HR1.out 1 rfl).trans (if_pos rfl)
      have hz2 := HZ1.out.below (b_new w1 (.cells #[.int .i64 2, .int .i64 1, .string ⟨#[]⟩] 38))
      have HZ2 := Lib.hid hz2
      have HBx2 := Lib.hid (HBx1.out.below (b_new w1 (.cells #[.int .i64 2, .int .i64 1, .string ⟨#[]⟩] 38)))
      have HB4 := Lib.hid (b_more HB3.out (.cells #[.int .i64 2, .int .i64 1, .string ⟨#[]⟩] 38))
      have hbl := Below.refl (w1.alloc (.cells #[.int .i64 2, .int .i64 1, .string ⟨#[]⟩] 38)).heap.size (w1.alloc (.cells #[.int .i64 2, .int .i64 1, .string ⟨#[]⟩] 38))
      obtain ⟨g0, g1, g2, g3, g4, g5⟩ := HBx2.out.cells
      clear hz2
      go_wp2_with fail
      go_region_with (go_at_call 119; refine (truth_t _).mono ?_; rintro e w2 ⟨rfl, hb5⟩; have hbl := (by first | exact b_step hbl hb5 | exact b_step (b_drew hbl) hb5 | exact b_step hbl (b_undrew hb5) : Below (w1.alloc (.cells #[.int .i64 2, .int .i64 1, .string ⟨#[]⟩] 38)).heap.size (w1.alloc (.cells #[.int .i64 2, .int .i64 1, .string ⟨#[]⟩] 38)) w2); obtain ⟨q1, q2⟩ := bcell hbl; have z1 := zlt hbl)
      all_goals (have hz3 := HZ2.out.below hbl
                 have hx3 := HBx2.out.below hbl
                 have hb6 := b_trans HB4.out hbl
                 obtain ⟨n0, n1, n2, n3, n4, n5⟩ := hx3.cells
                 obtain ⟨s0, s1, s2, s3, s4, s5⟩ := H1.out.below hb6
                 have HZ3 := Lib.hid hz3
                 have HB6 := Lib.hid hb6
                 clear q1 q2 z1 hbl g0 g1 g2 g3 g4 g5 hx3 hz3 hb6 hb5
                 go_wp2_with fail
                 refine (HC1.out _ HB6.out).mono ?_; rintro e w3 ⟨rfl, hb7⟩
                 have hz4 := HZ3.out.below hb7
                 have hbE := b_set3 (b_trans HB6.out hb7) (w.heap.size + 1) (by omega) (.int .i64 v1k) (.int .i64 v1n) (.string v1s)
                 obtain ⟨u0, u1, u2⟩ := hz4.cells
                 have v0 := hz4.frozen
                 have zl2 := hz4.lt
                 clear hz4 hb7 n0 n1 n2 n3 n4 n5 s0 s1 s2 s3 s4 s5
                 go_wp2_with fail
                 refine bodyPost_ret (v := .agg #[.int .i64 v1k, .int .i64 v1n, .string v1s]) (by simp [results, Tryz.results93, go_sem, u0, u1, u2]) rfl ⟨rfl, hbE⟩)
  · obtain rfl : r = ⟨fk, fn, ft⟩ := HR2.out hk
    rcases HIn.out hk with rfl | rfl
    · have hz2 := HZ1.out.below (b_new w1 (.cells #[.int .i64 4, .int .i64 fn, .string ft] 38))
      have HZ2 := Lib.hid hz2
      have HBx2 := Lib.hid (HBx1.out.below (b_new w1 (.cells #[.int .i64 4, .int .i64 fn, .string ft] 38)))
      have HB4 := Lib.hid (b_more HB3.out (.cells #[.int .i64 4, .int .i64 fn, .string ft] 38))
      have HV := Lib.hid (BV.new w1 4 fn ft)
      have hbl := Below.refl (w1.alloc (.cells #[.int .i64 4, .int .i64 fn, .string ft] 38)).heap.size (w1.alloc (.cells #[.int .i64 4, .int .i64 fn, .string ft] 38))
      obtain ⟨g0, g1, g2, g3, g4, g5⟩ := HBx2.out.cells
      clear hz2
      go_wp2_with fail
      go_region_with (go_at_call 119; refine (truth_t _).mono ?_; rintro e w2 ⟨rfl, hb5⟩; have hbl := (by first | exact b_step hbl hb5 | exact b_step (b_drew hbl) hb5 | exact b_step hbl (b_undrew hb5) : Below (w1.alloc (.cells #[.int .i64 4, .int .i64 fn, .string ft] 38)).heap.size (w1.alloc (.cells #[.int .i64 4, .int .i64 fn, .string ft] 38)) w2); obtain ⟨q1, q2⟩ := bcell hbl; have z1 := zlt hbl)
      all_goals (have hz3 := HZ2.out.below hbl
                 have hb6 := b_trans HB4.out hbl
                 have hv3 := HV.out.below hbl
                 obtain ⟨n0, n1, n2⟩ := hv3.cells
                 obtain ⟨u0, u1, u2⟩ := hz3.cells
                 have v0 := hz3.frozen
                 have zl2 := hz3.lt
                 have hbE := b_set3 hb6 (w.heap.size + 1) (by omega) (.int .i64 4) (.int .i64 fn) (.string ft)
                 clear q1 q2 z1 hbl hz3 hb6 hv3 g0 g1 g2 g3 g4 g5
                 go_wp2_with fail
                 refine bodyPost_ret (v := .agg #[.int .i64 4, .int .i64 fn, .string ft]) (by simp [results, Tryz.results93, go_sem, u0, u1, u2]) rfl ⟨rfl, hbE⟩)
    · have hz2 := HZ1.out.below (b_new w1 (.cells #[.int .i64 5, .int .i64 fn, .string ft] 38))
      have HZ2 := Lib.hid hz2
      have HBx2 := Lib.hid (HBx1.out.below (b_new w1 (.cells #[.int .i64 5, .int .i64 fn, .string ft] 38)))
      have HB4 := Lib.hid (b_more HB3.out (.cells #[.int .i64 5, .int .i64 fn, .string ft] 38))
      have HV := Lib.hid (BV.new w1 5 fn ft)
      have hbl := Below.refl (w1.alloc (.cells #[.int .i64 5, .int .i64 fn, .string ft] 38)).heap.size (w1.alloc (.cells #[.int .i64 5, .int .i64 fn, .string ft] 38))
      obtain ⟨g0, g1, g2, g3, g4, g5⟩ := HBx2.out.cells
      clear hz2
      go_wp2_with fail
      go_region_with (go_at_call 119; refine (truth_t _).mono ?_; rintro e w2 ⟨rfl, hb5⟩; have hbl := (by first | exact b_step hbl hb5 | exact b_step (b_drew hbl) hb5 | exact b_step hbl (b_undrew hb5) : Below (w1.alloc (.cells #[.int .i64 5, .int .i64 fn, .string ft] 38)).heap.size (w1.alloc (.cells #[.int .i64 5, .int .i64 fn, .string ft] 38)) w2); obtain ⟨q1, q2⟩ := bcell hbl; have z1 := zlt hbl)
      all_goals (have hz3 := HZ2.out.below hbl
                 have hb6 := b_trans HB4.out hbl
                 have hv3 := HV.out.below hbl
                 obtain ⟨n0, n1, n2⟩ := hv3.cells
                 obtain ⟨u0, u1, u2⟩ := hz3.cells
                 have v0 := hz3.frozen
                 have zl2 := hz3.lt
                 have hbE := b_set3 hb6 (w.heap.size + 1) (by omega) (.int .i64 5) (.int .i64 fn) (.string ft)
                 clear q1 q2 z1 hbl hz3 hb6 hv3 g0 g1 g2 g3 g4 g5
                 go_wp2_with fail
                 refine bodyPost_ret (v := .agg #[.int .i64 5, .int .i64 fn, .string ft]) (by simp [results, Tryz.results93, go_sem, u0, u1, u2]) rfl ⟨rfl, hbE⟩)
set_option maxRecDepth 100000 in
set_option maxHeartbeats 4000000 in
theorem con_or (fs : List (ByteArray × Vl)) (m : Nat) (x0 x1 : Ex) (h0 : EvAt fs m x0) (h1 : EvAt fs m x1) (hok : (Ex.ev fs x0).ok) (d : Nd) (hd : d.op = 16) (A : Option Addr) (c : Nat) (w : World) (his : Is w (.mk d [x0, x1]) d A 2) (hm : FM w m fs) :
    Calls Tryz.prog 93 #[.map (some m), .agg #[.int .i64 d.op, .int .i64 d.k, .int .i64 d.n, .string d.s, .string d.nm, .slice A 2 c]] w fun e w' => e = .returned (.agg #[.int .i64 (conV false [Ex.ev fs x0, Ex.ev fs x1]).k, .int .i64 (conV false [Ex.ev fs x0, Ex.ev fs x1]).n, .string (conV false [Ex.ev fs x0, Ex.ev fs x1]).s]) ∧ Below w.heap.size w w' := by
  obtain ⟨a, rfl, harg⟩ := arg_at his (by simp)
  obtain ⟨d0, B0, m0, c0, hat0, hi0⟩ := harg 0 (by simp)
  obtain ⟨d1, B1, m1, c1, hat1, hi1⟩ := harg 1 (by simp)
  simp only [List.getElem_cons_zero, List.getElem_cons_succ] at hi0 hi1
  rw [add0] at hat0
  rw [add6] at hat1
  obtain ⟨r, hr⟩ : ∃ r, conV false [Ex.ev fs x0, Ex.ev fs x1] = r := ⟨_, rfl⟩
  rw [hr]
  have hc := fun W (hb : Below w.heap.size w W) => condition_any fs m x0 h0 d0 B0 m0 c0 W (hi0.below hb) (hm.below hb)
  have hc1 := fun W (hb : Below w.heap.size w W) => condition_any fs m x1 h1 d1 B1 m1 c1 W (hi1.below hb) (hm.below hb)
  have hfk : ∀ v, condV (Ex.ev fs x0) = v → v.k = 2 → Ex.ev fs x0 = v := fun v hv hk => by
    rw [← hv]; rw [← hv] at hk
    unfold condV at hk ⊢
    split at hk
    · exact absurd hk (by decide)
    · rename_i h; rw [if_neg h]
  have hkf : (condV (Ex.ev fs x0)).k ≠ 2 → (Ex.ev fs x0).k ≠ 2 := fun h h2 => h (by unfold condV; rw [if_neg (by omega)]; exact h2)
  have hfok := cond_ok hok
  have hfk45 : (condV (Ex.ev fs x0)).k ≠ 1 ∧ (condV (Ex.ev fs x0)).k ≠ 3 := by
    unfold condV; split
    · exact ⟨by decide, by decide⟩
    · rename_i h; exact ⟨fun g => h (.inl g), fun g => h (.inr g)⟩
  obtain ⟨f, hf⟩ : ∃ f, condV (Ex.ev fs x0) = f := ⟨_, rfl⟩
  have hres2 : f.k ≠ 2 → r = f := fun h => by rw [← hf] at h; rw [← hr]; unfold conV; simp only [List.getD_cons_zero, List.getD_cons_succ]; rw [if_neg (fun g => hkf h g.1), hf]
  have hres1 : ∀ n, f = ⟨2, n, ⟨#[]⟩⟩ → r = if n = bitI false then condV (Ex.ev fs x1) else f := fun n h => by
    have e := hfk f hf (by rw [h])
    rw [← hr]; unfold conV; simp only [List.getD_cons_zero, List.getD_cons_succ]
    rw [hf, e, h]
    by_cases g : n = bitI false
    · rw [if_pos ⟨rfl, g⟩, if_pos g]
    · rw [if_neg (fun q => g q.2), if_neg g]
  rw [hf] at hc hfok hfk45
  obtain ⟨v1, hv1⟩ : ∃ v, condV (Ex.ev fs x1) = v := ⟨_, rfl⟩
  rw [hv1] at hc1 hres1
  have hb0 := b_new w (.cells #[.int .i64 d.op, .int .i64 d.k, .int .i64 d.n, .string d.s, .string d.nm, .slice (some a) 2 c] 41)
  have hb1 := b_more hb0 (.cells #[.int .i64 0, .int .i64 0, .string ⟨#[]⟩] 38)
  have hz0 := BV.new (w.alloc (.cells #[.int .i64 d.op, .int .i64 d.k, .int .i64 d.n, .string d.s, .string d.nm, .slice (some a) 2 c] 41)) 0 0 ⟨#[]⟩
  have hbx := (Box.new w d (some a) 2 c).below (b_new _ (.cells #[.int .i64 0, .int .i64 0, .string ⟨#[]⟩] 38))
  rw [World.size_alloc] at hz0
  obtain ⟨dop, dk, dn, ds, dnm⟩ := d
  obtain rfl : dop = 16 := hd
  obtain ⟨p0, p1, p2, p3, p4, p5⟩ := hat0.below hb1
  have HC := Lib.hid hc
  have HC1 := Lib.hid hc1
  have HZ := Lib.hid hz0
  have HB := Lib.hid hb1
  have HBx := Lib.hid hbx
  have H1 := Lib.hid hat1
  have HR1 := Lib.hid hres1
  have HR2 := Lib.hid hres2
  have HFo := Lib.hid hfok
  have HF45 := Lib.hid hfk45
  clear hc hc1 hz0 hb0 hb1 hbx hat0 hat1 hres1 hres2 hfok hf hfk hkf hr hv1 his hm hi0 hi1 harg hok h0 h1 hfk45
  obtain ⟨fk, fn, ft⟩ := f
  obtain ⟨v1k, v1n, v1s⟩ := v1
  go_enter Tryz.func93, Tryz.ntmps93
  go_wp2_with fail
  refine (HC.out _ HB.out).mono ?_; rintro e w1 ⟨rfl, hb2⟩
  have hz1 := HZ.out.below hb2
  have hb3 := b_then (b_then hb2)
  have HZ1 := Lib.hid hz1
  have HB3 := Lib.hid hb3
  have HBx1 := Lib.hid (HBx.out.below hb2)
  have zl := hz1.lt
  clear hz1 hb3 hb2 p0 p1 p2 p3 p4 p5
  have hin : fk ≠ 2 → fk = 4 ∨ fk = 5 := fun h => by have h1 := ok_kind HFo.out; have h2 := HF45.out; simp only at h1 h2; omega
  have HIn := Lib.hid hin
  clear hin
  by_cases hk : fk = 2
  · subst hk
    rcases tru_of HFo.out rfl with he | he
    all_goals (injection he with _ he1 he2; subst he1 he2)
    · obtain rfl : r = ⟨v1k, v1n, v1s⟩ := (HR1.out 0 rfl).trans (if_pos rfl)
      have hz2 := HZ1.out.below (b_new w1 (.cells #[.int .i64 2, .int .i64 0, .string ⟨#[]⟩] 38))
      have HZ2 := Lib.hid hz2
      have HBx2 := Lib.hid (HBx1.out.below (b_new w1 (.cells #[.int .i64 2, .int .i64 0, .string ⟨#[]⟩] 38)))
      have HB4 := Lib.hid (b_more HB3.out (.cells #[.int .i64 2, .int .i64 0, .string ⟨#[]⟩] 38))
      have hbl := Below.refl (w1.alloc (.cells #[.int .i64 2, .int .i64 0, .string ⟨#[]⟩] 38)).heap.size (w1.alloc (.cells #[.int .i64 2, .int .i64 0, .string ⟨#[]⟩] 38))
      obtain ⟨g0, g1, g2, g3, g4, g5⟩ := HBx2.out.cells
      clear hz2
      go_wp2_with fail
      go_region_with (go_at_call 119; refine (truth_f _).mono ?_; rintro e w2 ⟨rfl, hb5⟩; have hbl := (by first | exact b_step hbl hb5 | exact b_step (b_drew hbl) hb5 | exact b_step hbl (b_undrew hb5) : Below (w1.alloc (.cells #[.int .i64 2, .int .i64 0, .string ⟨#[]⟩] 38)).heap.size (w1.alloc (.cells #[.int .i64 2, .int .i64 0, .string ⟨#[]⟩] 38)) w2); obtain ⟨q1, q2⟩ := bcell hbl; have z1 := zlt hbl)
      all_goals (have hz3 := HZ2.out.below hbl
                 have hx3 := HBx2.out.below hbl
                 have hb6 := b_trans HB4.out hbl
                 obtain ⟨n0, n1, n2, n3, n4, n5⟩ := hx3.cells
                 obtain ⟨s0, s1, s2, s3, s4, s5⟩ := H1.out.below hb6
                 have HZ3 := Lib.hid hz3
                 have HB6 := Lib.hid hb6
                 clear q1 q2 z1 hbl g0 g1 g2 g3 g4 g5 hx3 hz3 hb6 hb5
                 go_wp2_with fail
                 refine (HC1.out _ HB6.out).mono ?_; rintro e w3 ⟨rfl, hb7⟩
                 have hz4 := HZ3.out.below hb7
                 have hbE := b_set3 (b_trans HB6.out hb7) (w.heap.size + 1) (by omega) (.int .i64 v1k) (.int .i64 v1n) (.string v1s)
                 obtain ⟨u0, u1, u2⟩ := hz4.cells
                 have v0 := hz4.frozen
                 have zl2 := hz4.lt
                 clear hz4 hb7 n0 n1 n2 n3 n4 n5 s0 s1 s2 s3 s4 s5
                 go_wp2_with fail
                 refine bodyPost_ret (v := .agg #[.int .i64 v1k, .int .i64 v1n, .string v1s]) (by simp [results, Tryz.results93, go_sem, u0, u1, u2]) rfl ⟨rfl, hbE⟩)
    · obtain rfl : r = ⟨2, 1, ⟨#[]⟩⟩ := (HR1.out 1 rfl).trans (if_neg (by decide))
      have hz2 := HZ1.out.below (b_new w1 (.cells #[.int .i64 2, .int .i64 1, .string ⟨#[]⟩] 38))
      have HZ2 := Lib.hid hz2
      have HBx2 := Lib.hid (HBx1.out.below (b_new w1 (.cells #[.int .i64 2, .int .i64 1, .string ⟨#[]⟩] 38)))
      have HB4 := Lib.hid (b_more HB3.out (.cells #[.int .i64 2, .int .i64 1, .string ⟨#[]⟩] 38))
      have HV := Lib.hid (BV.new w1 2 1 ⟨#[]⟩)
      have hbl := Below.refl (w1.alloc (.cells #[.int .i64 2, .int .i64 1, .string ⟨#[]⟩] 38)).heap.size (w1.alloc (.cells #[.int .i64 2, .int .i64 1, .string ⟨#[]⟩] 38))
      obtain ⟨g0, g1, g2, g3, g4, g5⟩ := HBx2.out.cells
      clear hz2
      go_wp2_with fail
      go_region_with (go_at_call 119; refine (truth_f _).mono ?_; rintro e w2 ⟨rfl, hb5⟩; have hbl := (by first | exact b_step hbl hb5 | exact b_step (b_drew hbl) hb5 | exact b_step hbl (b_undrew hb5) : Below (w1.alloc (.cells #[.int .i64 2, .int .i64 1, .string ⟨#[]⟩] 38)).heap.size (w1.alloc (.cells #[.int .i64 2, .int .i64 1, .string ⟨#[]⟩] 38)) w2); obtain ⟨q1, q2⟩ := bcell hbl; have z1 := zlt hbl)
      all_goals (have hz3 := HZ2.out.below hbl
                 have hb6 := b_trans HB4.out hbl
                 have hv3 := HV.out.below hbl
                 obtain ⟨n0, n1, n2⟩ := hv3.cells
                 obtain ⟨u0, u1, u2⟩ := hz3.cells
                 have v0 := hz3.frozen
                 have zl2 := hz3.lt
                 have hbE := b_set3 hb6 (w.heap.size + 1) (by omega) (.int .i64 2) (.int .i64 1) (.string ⟨#[]⟩)
                 clear q1 q2 z1 hbl hz3 hb6 hv3 g0 g1 g2 g3 g4 g5
                 go_wp2_with fail
                 refine bodyPost_ret (v := .agg #[.int .i64 2, .int .i64 1, .string ⟨#[]⟩]) (by simp [results, Tryz.results93, go_sem, u0, u1, u2]) rfl ⟨rfl, hbE⟩)
  · obtain rfl : r = ⟨fk, fn, ft⟩ := HR2.out hk
    rcases HIn.out hk with rfl | rfl
    · have hz2 := HZ1.out.below (b_new w1 (.cells #[.int .i64 4, .int .i64 fn, .string ft] 38))
      have HZ2 := Lib.hid hz2
      have HBx2 := Lib.hid (HBx1.out.below (b_new w1 (.cells #[.int .i64 4, .int .i64 fn, .string ft] 38)))
      have HB4 := Lib.hid (b_more HB3.out (.cells #[.int .i64 4, .int .i64 fn, .string ft] 38))
      have HV := Lib.hid (BV.new w1 4 fn ft)
      have hbl := Below.refl (w1.alloc (.cells #[.int .i64 4, .int .i64 fn, .string ft] 38)).heap.size (w1.alloc (.cells #[.int .i64 4, .int .i64 fn, .string ft] 38))
      obtain ⟨g0, g1, g2, g3, g4, g5⟩ := HBx2.out.cells
      clear hz2
      go_wp2_with fail
      go_region_with (go_at_call 119; refine (truth_f _).mono ?_; rintro e w2 ⟨rfl, hb5⟩; have hbl := (by first | exact b_step hbl hb5 | exact b_step (b_drew hbl) hb5 | exact b_step hbl (b_undrew hb5) : Below (w1.alloc (.cells #[.int .i64 4, .int .i64 fn, .string ft] 38)).heap.size (w1.alloc (.cells #[.int .i64 4, .int .i64 fn, .string ft] 38)) w2); obtain ⟨q1, q2⟩ := bcell hbl; have z1 := zlt hbl)
      all_goals (have hz3 := HZ2.out.below hbl
                 have hb6 := b_trans HB4.out hbl
                 have hv3 := HV.out.below hbl
                 obtain ⟨n0, n1, n2⟩ := hv3.cells
                 obtain ⟨u0, u1, u2⟩ := hz3.cells
                 have v0 := hz3.frozen
                 have zl2 := hz3.lt
                 have hbE := b_set3 hb6 (w.heap.size + 1) (by omega) (.int .i64 4) (.int .i64 fn) (.string ft)
                 clear q1 q2 z1 hbl hz3 hb6 hv3 g0 g1 g2 g3 g4 g5
                 go_wp2_with fail
                 refine bodyPost_ret (v := .agg #[.int .i64 4, .int .i64 fn, .string ft]) (by simp [results, Tryz.results93, go_sem, u0, u1, u2]) rfl ⟨rfl, hbE⟩)
    · have hz2 := HZ1.out.below (b_new w1 (.cells #[.int .i64 5, .int .i64 fn, .string ft] 38))
      have HZ2 := Lib.hid hz2
      have HBx2 := Lib.hid (HBx1.out.below (b_new w1 (.cells #[.int .i64 5, .int .i64 fn, .string ft] 38)))
      have HB4 := Lib.hid (b_more HB3.out (.cells #[.int .i64 5, .int .i64 fn, .string ft] 38))
      have HV := Lib.hid (BV.new w1 5 fn ft)
      have hbl := Below.refl (w1.alloc (.cells #[.int .i64 5, .int .i64 fn, .string ft] 38)).heap.size (w1.alloc (.cells #[.int .i64 5, .int .i64 fn, .string ft] 38))
      obtain ⟨g0, g1, g2, g3, g4, g5⟩ := HBx2.out.cells
      clear hz2
      go_wp2_with fail
      go_region_with (go_at_call 119; refine (truth_f _).mono ?_; rintro e w2 ⟨rfl, hb5⟩; have hbl := (by first | exact b_step hbl hb5 | exact b_step (b_drew hbl) hb5 | exact b_step hbl (b_undrew hb5) : Below (w1.alloc (.cells #[.int .i64 5, .int .i64 fn, .string ft] 38)).heap.size (w1.alloc (.cells #[.int .i64 5, .int .i64 fn, .string ft] 38)) w2); obtain ⟨q1, q2⟩ := bcell hbl; have z1 := zlt hbl)
      all_goals (have hz3 := HZ2.out.below hbl
                 have hb6 := b_trans HB4.out hbl
                 have hv3 := HV.out.below hbl
                 obtain ⟨n0, n1, n2⟩ := hv3.cells
                 obtain ⟨u0, u1, u2⟩ := hz3.cells
                 have v0 := hz3.frozen
                 have zl2 := hz3.lt
                 have hbE := b_set3 hb6 (w.heap.size + 1) (by omega) (.int .i64 5) (.int .i64 fn) (.string ft)
                 clear q1 q2 z1 hbl hz3 hb6 hv3 g0 g1 g2 g3 g4 g5
                 go_wp2_with fail
                 refine bodyPost_ret (v := .agg #[.int .i64 5, .int .i64 fn, .string ft]) (by simp [results, Tryz.results93, go_sem, u0, u1, u2]) rfl ⟨rfl, hbE⟩)
end EvN
namespace EvR
open Go.RowKit
open NumM ValM StrM ExM TyM EvM Kit Ev EvC EvO ExL
set_option linter.unusedVariables false
def cellsV:List Vl->List Value
 | [] => []
 | v :: l => .int .i64 v.k :: .int .i64 v.n :: .string v.s :: cellsV l
theorem cellsV_len:∀ vs:List Vl,(cellsV vs).length=vs.length * 3
 | [] => rfl
 | v :: l => by rw [cellsV,List.length_cons,List.length_cons,List.length_cons,cellsV_len l,List.length_cons]; omega
theorem cellsV_at:∀ (vs:List Vl) (i:Nat) (h:i < vs.length),(cellsV vs)[i * 3]?=some (.int .i64 vs[i].k)/\(cellsV vs)[i * 3 + 1]?=some (.int .i64 vs[i].n)/\(cellsV vs)[i * 3 + 2]?=some (.string vs[i].s)
 | [],i,h => absurd h (by simp)
 | v :: l,0,_ => ⟨rfl,rfl,rfl⟩
 | v :: l,i + 1,h => by
  have:=cellsV_at l i (by simpa using h)
  rw [show (i + 1) * 3=i * 3 + 1 + 1 + 1 by omega]
  exact this
theorem cellsV_ext {L:List Value} {vs:List Vl} (hl:L.length=vs.length * 3) (h:∀ i (hi:i < vs.length),L[i * 3]?=some (.int .i64 vs[i].k)/\L[i * 3 + 1]?=some (.int .i64 vs[i].n)/\L[i * 3 + 2]?=some (.string vs[i].s)):L=cellsV vs:=by
 refine List.ext_getElem? fun j => ?_
 by_cases hj:j < vs.length * 3
 ·have hi:j / 3 < vs.length:=by omega
  obtain ⟨a0,a1,a2⟩:=h (j / 3) hi
  obtain ⟨b0,b1,b2⟩:=cellsV_at vs (j / 3) hi
  have:j=j / 3 * 3 ∨ j=j / 3 * 3 + 1 ∨ j=j / 3 * 3 + 2:=by omega
  rcases this with e | e | e
  ·rw [e]; rw [a0,b0]
  ·rw [e]; rw [a1,b1]
  ·rw [e]; rw [a2,b2]
 ·rw [List.getElem?_eq_none (by omega),List.getElem?_eq_none (by rw [cellsV_len]; omega)]
theorem cellsV_set:∀ (vs:List Vl) (k:Nat) (_:k < vs.length) (v:Vl),(((cellsV vs).set (k * 3) (.int .i64 v.k)).set (k * 3 + 1) (.int .i64 v.n)).set (k * 3 + 2) (.string v.s)=cellsV (vs.set k v)
 | [],k,h,_ => absurd h (by simp)
 | x :: l,0,_,v => rfl
 | x :: l,k + 1,h,v => by
  have:=cellsV_set l k (by simpa using h) v
  rw [show (k + 1) * 3 + 2=k * 3 + 2 + 1 + 1 + 1 by omega,show (k + 1) * 3 + 1=k * 3 + 1 + 1 + 1 + 1 by omega,show (k + 1) * 3=k * 3 + 1 + 1 + 1 by omega]
  simp only [cellsV,List.set_cons_succ]
  rw [this]
theorem made_cells (n:Nat):(madeCells (Value.agg #[.int .i64 0,.int .i64 0,.string ⟨#[]⟩]).cells (n * 3)).toList=cellsV (List.replicate n zeroV):=by
 refine cellsV_ext (by rw [Array.length_toList,size_madeCells,List.length_replicate]) fun i hi => ?_
 rw [List.length_replicate] at hi
 have key:∀ j,j < n * 3->(madeCells (Value.agg #[.int .i64 0,.int .i64 0,.string ⟨#[]⟩]).cells (n * 3)).toList[j]?=some ((#[.int .i64 0,.int .i64 0,.string ⟨#[]⟩]:Array Value)[j % 3]!):=fun j hj => by
  unfold madeCells
  rw [Array.getElem?_toList,Array.getElem?_map,Array.getElem?_range,if_pos hj]; rfl
 simp only [List.getElem_replicate]
 refine ⟨?_,?_,?_⟩
 ·rw [key _ (by omega),show i * 3 % 3=0 by omega]; rfl
 ·rw [key _ (by omega),show (i * 3 + 1) % 3=1 by omega]; rfl
 ·rw [key _ (by omega),show (i * 3 + 2) % 3=2 by omega]; rfl
def RowV (w:World) (g:Nat) (vs:List Vl):Prop:=w.heap[g]?=some (.cells (cellsV vs).toArray 38 (0,0))
theorem RowV.lt {w:World} {g:Nat} {vs:List Vl} (h:RowV w g vs):g < w.heap.size:=(Array.getElem?_eq_some_iff.1 h).1
theorem RowV.below {w w':World} {g:Nat} {vs:List Vl} (h:RowV w g vs) (hb:Below w.heap.size w w'):RowV w' g vs:=(hb.block g h.lt).trans h
theorem RowV.frozen {w:World} {g:Nat} {vs:List Vl} (h:RowV w g vs) (o:Nat):w.frozen? ⟨g,o,none⟩=false:=frozen_of_row w g o _ _ h
theorem RowV.at {w:World} {g:Nat} {vs:List Vl} (h:RowV w g vs) (i:Nat) (hi:i < vs.length):w.cell? ⟨g,i * 3,none⟩=some (.int .i64 vs[i].k)/\w.cell? ⟨g,i * 3 + 1,none⟩=some (.int .i64 vs[i].n)/\w.cell? ⟨g,i * 3 + 2,none⟩=some (.string vs[i].s):=by
 unfold RowV at h
 obtain ⟨b0,b1,b2⟩:=cellsV_at vs i hi
 exact ⟨by simp only [World.cell?,h]; rw [← b0]; simp,by simp only [World.cell?,h]; rw [← b1]; simp,by simp only [World.cell?,h]; rw [← b2]; simp⟩
theorem RowV.vals {w:World} {g:Nat} {vs:List Vl} (h:RowV w g vs):Vals w g vs:=fun i hi => h.at i hi
theorem RowV.set {w:World} {g:Nat} {vs:List Vl} (h:RowV w g vs) (k:Nat) (hk:k < vs.length) (v:Vl):RowV (((w.setCell ⟨g,k * 3,none⟩ (.int .i64 v.k)).setCell ⟨g,k * 3 + 1,none⟩ (.int .i64 v.n)).setCell ⟨g,k * 3 + 2,none⟩ (.string v.s)) g (vs.set k v):=by
 have e1:=heap_setCell_same w g (k * 3) _ _ (.int .i64 v.k) h
 have e2:=heap_setCell_same _ g (k * 3 + 1) _ _ (.int .i64 v.n) e1
 have e3:=heap_setCell_same _ g (k * 3 + 2) _ _ (.string v.s) e2
 unfold RowV
 rw [e3,← cellsV_set vs k hk v]
 simp
theorem row_of {w:World} {base g n:Nat} (h:w.ownsRow base 38 3 (.slice (some ⟨g,0,none⟩) n n) n (madeCells (Value.agg #[.int .i64 0,.int .i64 0,.string ⟨#[]⟩]).cells (n * 3)).toList):RowV w g (List.replicate n zeroV):=by
 rcases h.2 with ⟨h2,_⟩ | ⟨g',cap,cur,h2,_,h3,_,_,h4,h5⟩
 ·cases h2
 ·injection h2 with h2 _ h6
  injection h2 with h2
  injection h2 with h2
  subst h2 h6
  rw [made_cells,List.take_of_length_le (by rw [Array.length_toList]; omega)] at h5
  unfold RowV
  rw [h3,← h5]
structure EInv (w:World) (g:Nat) (es:List Vl) (k:Nat) (wr:World):Prop where
 le:k<=es.length
 row:∃ vs:List Vl,RowV wr g vs/\vs.length=es.length/\∀ i (h:i < vs.length) (h2:i < es.length),i < k->vs[i]=es[i]
 below:Below w.heap.size w wr
theorem EInv.step {w:World} {g:Nat} {es:List Vl} {k:Nat} {wr w1:World} (h:EInv w g es k wr) (hk:k < es.length) (hb:Below wr.heap.size wr w1) (hg:w.heap.size<=g) :
  EInv w g es (k + 1) (((w1.setCell ⟨g,k * 3,none⟩ (.int .i64 es[k].k)).setCell ⟨g,k * 3 + 1,none⟩ (.int .i64 es[k].n)).setCell ⟨g,k * 3 + 2,none⟩ (.string es[k].s)):=by
 obtain ⟨vs,hr,hl,hv⟩:=h.row
 refine ⟨hk,⟨vs.set k es[k],(hr.below hb).set k (by omega) _,by rw [List.length_set,hl],fun i h1 h2 h3 => ?_⟩,?_⟩
 ·rw [List.length_set] at h1
  rw [List.getElem_set]
  by_cases e:k=i
  ·subst e; rw [if_pos rfl]
  ·rw [if_neg e]; exact hv i h1 h2 (by omega)
 ·have:=h.below.trans (hb.mono h.below.size)
  exact ((this.setCell (p:=⟨g,k * 3,none⟩) hg _).setCell (p:=⟨g,k * 3 + 1,none⟩) hg _).setCell (p:=⟨g,k * 3 + 2,none⟩) hg _
theorem EInv.cells {w:World} {g:Nat} {es:List Vl} {k:Nat} {wr:World} (h:EInv w g es k wr) (hk:k < es.length):(∃ v,wr.cell? ⟨g,k * 3,none⟩=some v)/\(∃ v,wr.cell? ⟨g,k * 3 + 1,none⟩=some v)/\(∃ v,wr.cell? ⟨g,k * 3 + 2,none⟩=some v)/\(∀ o,wr.frozen? ⟨g,o,none⟩=false)/\g < wr.heap.size:=by
 obtain ⟨vs,hr,hl,_⟩:=h.row
 obtain ⟨a0,a1,a2⟩:=hr.at k (by omega)
 exact ⟨⟨_,a0⟩,⟨_,a1⟩,⟨_,a2⟩,hr.frozen,hr.lt⟩
theorem EInv.vals {w:World} {g:Nat} {es:List Vl} {wr:World} (h:EInv w g es es.length wr):Vals wr g es:=by
 obtain ⟨vs,hr,hl,hv⟩:=h.row
 have:vs=es:=List.ext_getElem hl fun i h1 h2 => hv i h1 h2 h2
 subst this; exact hr.vals
end EvR
namespace EvE
open Go.RowKit Go.Maps
open NumM ValM StrM ExM TyM EvM Kit Ev EvC EvO EvF EvS EvN EvR ExL ExV ExN
set_option linter.unusedVariables false
theorem infoV:(Tryz.prog.info? 38).map (fun i => (i.zero,i.size,i.bytes))=some (some (.agg #[.int .i64 0,.int .i64 0,.string ⟨#[]⟩]),3,32):=by kernel_rfl
theorem tlen3 {α:Type} {l:List α} (h:l.length=3):∃ a b c,l=[a,b,c]:=by
 match l,h with
 | [a,b,c],_ => exact ⟨a,b,c,rfl⟩
theorem tlen2 {α:Type} {l:List α} (h:l.length=2):∃ a b,l=[a,b]:=by
 match l,h with
 | [a,b],_ => exact ⟨a,b,rfl⟩
set_option maxRecDepth 100000 in
set_option maxHeartbeats 4000000 in
theorem evaluate_any (fs:List (ByteArray × Vl)) (m:Nat) (hfs:∀ f ∈ fs,f.2.ok):∀ x:Ex,x.okN->EvAt fs m x:=by
 refine Ex.ind fun d l ih => ?_
 intro hok d' A n c w his hm
 have his0:=his
 rw [is_mk] at his
 obtain ⟨rfl,rfl,⟨hmx,_,hnm⟩,his⟩:=his
 obtain ⟨o1,o2,o3⟩:=okN_op hok
 have hokl:=((okN_mk d' l).1 hok).2
 have hev:∀ x ∈ l,EvAt fs m x:=fun x hx => ih x hx (hokl x hx)
 have hoke:∀ x ∈ l,(Ex.ev fs x).ok:=fun x hx => ev_ok hfs x (hokl x hx)
 have hevn:Ex.ev fs (.mk d' l)=evN fs d' (evL fs l):=ev_mk fs d' l
 obtain ⟨R,hR⟩:∃ R,Ex.ev fs (.mk d' l)=R:=⟨_,rfl⟩
 rw [hR]
 rw [hR] at hevn
 clear ih hokl hR hok
 obtain ⟨a1,a2,a3,a4,_⟩:=arity_cases d'.op
 -- the box of the formula,the result's block
 have hb0:=b_new w (.cells #[.int .i64 d'.op,.int .i64 d'.k,.int .i64 d'.n,.string d'.s,.string d'.nm,.slice A l.length c] 41)
 have hb1:=b_more hb0 (.cells #[.int .i64 0,.int .i64 0,.string ⟨#[]⟩] 38)
 have hz0:=BV.new (w.alloc (.cells #[.int .i64 d'.op,.int .i64 d'.k,.int .i64 d'.n,.string d'.s,.string d'.nm,.slice A l.length c] 41)) 0 0 ⟨#[]⟩
 have hbx:=(Box.new w d' A l.length c).below (b_new _ (.cells #[.int .i64 0,.int .i64 0,.string ⟨#[]⟩] 38))
 rw [World.size_alloc] at hz0
 by_cases p1:d'.op=1
 ·obtain rfl:R=⟨d'.k,d'.n,d'.s⟩:=by rw [hevn]; unfold evN; rw [if_pos p1]
  obtain ⟨dop,dk,dn,ds,dnm⟩:=d'
  obtain rfl:dop=1:=p1
  clear hevn his his0 hm hev hoke o3 a1 a2 a3 a4 hb0 hb1 hz0 hbx
  go_enter Tryz.func73,Tryz.ntmps73
  go_wp2_with fail
  refine bodyPost_ret (v:=.agg #[.int .i64 dk,.int .i64 dn,.string ds]) (by simp [results,Tryz.results73,go_sem]) rfl ⟨rfl,b_more (b_new _ _) _⟩
 -- one call,then the store of the result
 by_cases pone:d'.op=2 ∨ d'.op=15 ∨ d'.op=16 ∨ d'.op=17
 ·have HZ:=Lib.hid hz0
  have HB:=Lib.hid hb1
  obtain ⟨rk,rn,rs⟩:=R
  rcases pone with p | p | p | p
  ·have hc:=fun W (hb:Below w.heap.size w W) => field_any fs m d'.nm hnm W (hm.below hb)
   rw [show factV fs d'.nm=⟨rk,rn,rs⟩ by rw [hevn]; unfold evN; rw [if_neg (by omega),if_pos p]] at hc
   have HC:=Lib.hid hc
   obtain ⟨dop,dk,dn,ds,dnm⟩:=d'
   obtain rfl:dop=2:=p
   clear hevn his his0 hm hev hoke o3 a1 a2 a3 a4 hb0 hb1 hz0 hbx hc p1 o1 o2
   go_enter Tryz.func73,Tryz.ntmps73
   go_wp2_with fail
   refine (HC.out _ HB.out).mono ?_; rintro e w1 ⟨rfl,hb2⟩
   have hz1:=HZ.out.below hb2
   have hbE:=b_set3 (b_then (b_then hb2)) (w.heap.size + 1) (by omega) (.int .i64 rk) (.int .i64 rn) (.string rs)
   obtain ⟨u0,u1,u2⟩:=hz1.cells
   have v0:=hz1.frozen
   have zl2:=hz1.lt
   clear hz1 hb2
   go_wp2_with fail
   refine bodyPost_ret (v:=.agg #[.int .i64 rk,.int .i64 rn,.string rs]) (by simp [results,Tryz.results73,go_sem,u0,u1,u2]) rfl ⟨rfl,hbE⟩
  ·obtain ⟨x0,x1,rfl⟩:=tlen2 (o3.trans (a2 (.inl p)))
   have hc:=fun W (hb:Below w.heap.size w W) => con_and fs m x0 x1 (hev x0 (by simp)) (hev x1 (by simp)) (hoke x0 (by simp)) d' p A c W (his0.below hb) (hm.below hb)
   rw [show conV true [Ex.ev fs x0,Ex.ev fs x1]=⟨rk,rn,rs⟩ by rw [hevn]; unfold evN; rw [if_neg (by omega),if_neg (by omega),if_neg (by omega),if_pos p,evL_cons,evL_cons,evL_nil]] at hc
   have HC:=Lib.hid hc
   obtain ⟨dop,dk,dn,ds,dnm⟩:=d'
   obtain rfl:dop=15:=p
   clear hevn his his0 hm hev hoke o3 a1 a2 a3 a4 hb0 hb1 hz0 hbx hc p1 o1 o2
   go_enter Tryz.func73,Tryz.ntmps73
   go_wp2_with fail
   refine (HC.out _ HB.out).mono ?_; rintro e w1 ⟨rfl,hb2⟩
   have hz1:=HZ.out.below hb2
   have hbE:=b_set3 (b_then (b_then hb2)) (w.heap.size + 1) (by omega) (.int .i64 rk) (.int .i64 rn) (.string rs)
   obtain ⟨u0,u1,u2⟩:=hz1.cells
   have v0:=hz1.frozen
   have zl2:=hz1.lt
   clear hz1 hb2
   go_wp2_with fail
   refine bodyPost_ret (v:=.agg #[.int .i64 rk,.int .i64 rn,.string rs]) (by simp [results,Tryz.results73,go_sem,u0,u1,u2]) rfl ⟨rfl,hbE⟩
  ·obtain ⟨x0,x1,rfl⟩:=tlen2 (o3.trans (a2 (.inr p)))
   have hc:=fun W (hb:Below w.heap.size w W) => con_or fs m x0 x1 (hev x0 (by simp)) (hev x1 (by simp)) (hoke x0 (by simp)) d' p A c W (his0.below hb) (hm.below hb)
   rw [show conV false [Ex.ev fs x0,Ex.ev fs x1]=⟨rk,rn,rs⟩ by rw [hevn]; unfold evN; rw [if_neg (by omega),if_neg (by omega),if_neg (by omega),if_neg (by omega),if_pos p,evL_cons,evL_cons,evL_nil]] at hc
   have HC:=Lib.hid hc
   obtain ⟨dop,dk,dn,ds,dnm⟩:=d'
   obtain rfl:dop=16:=p
   clear hevn his his0 hm hev hoke o3 a1 a2 a3 a4 hb0 hb1 hz0 hbx hc p1 o1 o2
   go_enter Tryz.func73,Tryz.ntmps73
   go_wp2_with fail
   refine (HC.out _ HB.out).mono ?_; rintro e w1 ⟨rfl,hb2⟩
   have hz1:=HZ.out.below hb2
   have hbE:=b_set3 (b_then (b_then hb2)) (w.heap.size + 1) (by omega) (.int .i64 rk) (.int .i64 rn) (.string rs)
   obtain ⟨u0,u1,u2⟩:=hz1.cells
   have v0:=hz1.frozen
   have zl2:=hz1.lt
   clear hz1 hb2
   go_wp2_with fail
   refine bodyPost_ret (v:=.agg #[.int .i64 rk,.int .i64 rn,.string rs]) (by simp [results,Tryz.results73,go_sem,u0,u1,u2]) rfl ⟨rfl,hbE⟩
  ·obtain ⟨x0,x1,x2,rfl⟩:=tlen3 (o3.trans (a1 p))
   have hc:=fun W (hb:Below w.heap.size w W) => choice_any fs m x0 x1 x2 (hev x0 (by simp)) (hev x1 (by simp)) (hev x2 (by simp)) (hoke x0 (by simp)) d' A c W (his0.below hb) (hm.below hb)
   rw [show choV [Ex.ev fs x0,Ex.ev fs x1,Ex.ev fs x2]=⟨rk,rn,rs⟩ by rw [hevn]; unfold evN; rw [if_neg (by omega),if_neg (by omega),if_pos p,evL_cons,evL_cons,evL_cons,evL_nil]] at hc
   have HC:=Lib.hid hc
   obtain ⟨dop,dk,dn,ds,dnm⟩:=d'
   obtain rfl:dop=17:=p
   clear hevn his his0 hm hev hoke o3 a1 a2 a3 a4 hb0 hb1 hz0 hbx hc p1 o1 o2
   go_enter Tryz.func73,Tryz.ntmps73
   go_wp2_with fail
   refine (HC.out _ HB.out).mono ?_; rintro e w1 ⟨rfl,hb2⟩
   have hz1:=HZ.out.below hb2
   have hbE:=b_set3 (b_then (b_then hb2)) (w.heap.size + 1) (by omega) (.int .i64 rk) (.int .i64 rn) (.string rs)
   obtain ⟨u0,u1,u2⟩:=hz1.cells
   have v0:=hz1.frozen
   have zl2:=hz1.lt
   clear hz1 hb2
   go_wp2_with fail
   refine bodyPost_ret (v:=.agg #[.int .i64 rk,.int .i64 rn,.string rs]) (by simp [results,Tryz.results73,go_sem,u0,u1,u2]) rfl ⟨rfl,hbE⟩
 -- all operands
 obtain ⟨p2,p15,p16,p17⟩:d'.op ≠ 2/\d'.op ≠ 15/\d'.op ≠ 16/\d'.op ≠ 17:=⟨fun h => pone (.inl h),fun h => pone (.inr (.inl h)),fun h => pone (.inr (.inr (.inl h))),fun h => pone (.inr (.inr (.inr h)))⟩
 obtain rfl:R=opV d'.op (evL fs l):=by rw [hevn]; unfold evN; rw [if_neg p1,if_neg p2,if_neg p17,if_neg p15,if_neg p16]
 have hl3:l.length<=3:=by rw [o3]; exact (a3 p1 p2).2
 have hpos:1<=l.length:=by rw [o3]; exact (a3 p1 p2).1
 have hokes:∀ v ∈ evL fs l,v.ok:=fun v hv => by
  rw [evL_map] at hv
  obtain ⟨x,hx,rfl⟩:=List.mem_map.1 hv
  exact hoke x hx
 have hop:=fun g W (h:Vals W g (evL fs l)) => operation_any d'.op (evL fs l) g l.length W (by omega) o2 ⟨p15,p16,p17⟩ (by rw [evL_len,o3]) hokes h
 obtain ⟨r,hr⟩:∃ r,opV d'.op (evL fs l)=r:=⟨_,rfl⟩
 rw [hr] at hop ⊢
 rw [evL_len] at hop
 obtain ⟨rk,rn,rs⟩:=r
 obtain ⟨i0,hi,hz0',hz1,hz2⟩:=info_parts infoV
 have HS:=Lib.hid his
 have HOp:=Lib.hid hop
 have HEv:=Lib.hid hev
 have HMp:=Lib.hid hm
 have u1:(d'.op == 1)=false:=beq_eq_false_iff_ne.2 p1
 have u2:(d'.op == 2)=false:=beq_eq_false_iff_ne.2 p2
 have u15:(d'.op == 15)=false:=beq_eq_false_iff_ne.2 p15
 have u16:(d'.op == 16)=false:=beq_eq_false_iff_ne.2 p16
 have u17:(d'.op == 17)=false:=beq_eq_false_iff_ne.2 p17
 have HIn:=Lib.hid (fun (V W1:World) (hb:Below w.heap.size w V) (g:Nat) (hg:V.heap.size=g) (h1:W1.ownsRow w.heap.size 38 3 (.slice (some ⟨g,0,none⟩) l.length l.length) l.length (madeCells (Value.agg #[.int .i64 0,.int .i64 0,.string ⟨#[]⟩]).cells (l.length * 3)).toList) (h2:V.grownBy W1 none) =>
  (⟨Nat.zero_le _,⟨_,row_of h1,by rw [List.length_replicate,evL_len],fun i _ _ h => absurd h (by omega)⟩,hb.grown h2 hb.size (fun k e => by cases e)⟩:EInv w g (evL fs l) 0 W1))
 have HBx:=Lib.hid hbx
 have HZ:=Lib.hid hz0
 have HB:=Lib.hid hb1
 have hlen:=evL_len fs l
 have HLn:=Lib.hid hlen
 clear hr hop hevn his his0 hm hev hoke hokes o3 a1 a2 a3 a4 hb0 hb1 hz0 hbx pone p1 p2 p15 p16 p17 hmx hlen
 go_enter Tryz.func73,Tryz.ntmps73
 go_wp2_with ((at_make; refine wpList_make_full _ rfl _ _ 32 rfl w.heap.size 38 i0 _ 3 Tryz.underlying32 hi hz0' hz1 .i64 .i64 _ _ l.length rfl rfl rfl rfl (by rw [hz2]; omega) (by unfold maxLen; omega) (by simp; omega) ?_; intro w1 hown hgrow; obtain ⟨b0,b1,b2,b3,b4,b5⟩:=(HBx.out.below (⟨hgrow.os,hgrow.tape,hgrow.output,hgrow.size,fun k hk => hgrow.block k hk (by simp)⟩:Below _ _ _)).cells))
 rw [World.size_alloc,World.size_alloc] at hown
 have hbg:Below ((w.alloc (.cells #[.int .i64 d'.op,.int .i64 d'.k,.int .i64 d'.n,.string d'.s,.string d'.nm,.slice A l.length c] 41)).alloc (.cells #[.int .i64 0,.int .i64 0,.string ⟨#[]⟩] 38)).heap.size ((w.alloc (.cells #[.int .i64 d'.op,.int .i64 d'.k,.int .i64 d'.n,.string d'.s,.string d'.nm,.slice A l.length c] 41)).alloc (.cells #[.int .i64 0,.int .i64 0,.string ⟨#[]⟩] 38)) w1:=⟨hgrow.os,hgrow.tape,hgrow.output,hgrow.size,fun k hk => hgrow.block k hk (by simp)⟩
 have hI:=HIn.out _ w1 HB.out (w.heap.size + 1 + 1) (by simp) hown hgrow
 have HI0:=Lib.hid hI
 have HBx1:=Lib.hid (HBx.out.below hbg)
 have HZ1:=Lib.hid (HZ.out.below hbg)
 clear hown hgrow hbg hI b0 b1 b2 b3 b4 b5 HIn HBx HZ
 go_loopw [6,7,38] (fun _ _ i wr => ∃ k:Nat,i=.int .i64 k/\EInv w (w.heap.size + 1 + 1) (evL fs l) k wr/\Box wr w.heap.size d' A l.length c/\BV wr (w.heap.size + 1) 0 0 ⟨#[]⟩) (fun _ _ i _ => l.length - (intOf i).toNat)
 case atStart => exact ⟨0,rfl,HI0.out,HBx1.out,HZ1.out⟩
 case round =>
  obtain ⟨k,rfl,hE,hX,hZ⟩:=hrel
  have hk:=hE.le
  rw [HLn.out] at hk
  have HE:=Lib.hid hE
  have HX:=Lib.hid hX
  have HZ:=Lib.hid hZ
  clear hE hX hZ
  by_cases hlt:k < l.length
  ·obtain ⟨a,d2,B,m2,c2,rfl,hat,hi⟩:=HS.out k hlt
   have hbw:=HE.out.below
   obtain ⟨h0,h1,h2,h3,h4,h5⟩:=hat.below hbw
   obtain ⟨⟨x0,e0⟩,⟨x1,e1⟩,⟨x2,e2⟩,efz,elt⟩:=HE.out.cells (by rw [HLn.out]; exact hlt)
   have hc:=HEv.out _ (List.getElem_mem hlt) d2 B m2 c2 (wr.alloc (.cells #[.int .i64 d2.op,.int .i64 d2.k,.int .i64 d2.n,.string d2.s,.string d2.nm,.slice B m2 c2] 41)) ((hi.below hbw).alloc _) ((HMp.out.below hbw).below (b_new _ _))
   have hst:=fun W1 (hb:Below wr.heap.size wr W1) => HE.out.step (by rw [HLn.out]; exact hlt) hb (by omega)
   have hek:(evL fs l)[k]'(by rw [HLn.out]; exact hlt)=Ex.ev fs l[k]:=evL_get fs l k hlt _
   rw [hek] at hst
   obtain ⟨v,hv⟩:∃ v,Ex.ev fs l[k]=v:=⟨_,rfl⟩
   rw [hv] at hc hst
   obtain ⟨vk,vn,vs⟩:=v
   simp only at hc hst
   have HC:=Lib.hid hc
   have HSt:=Lib.hid hst
   have HBW:=Lib.hid hbw
   have xl:=HX.out.lt
   have zl:=HZ.out.lt
   clear hc hst hek hv hi hat hbw
   go_wp2_with fail
   refine HC.out.mono ?_; rintro e w2 ⟨rfl,hb2⟩
   have hb3:=b_then hb2
   have f0:=(hb3.cell (p:=⟨w.heap.size + 1 + 1,k * 3,none⟩) elt).trans e0
   have f1:=(hb3.cell (p:=⟨w.heap.size + 1 + 1,k * 3 + 1,none⟩) elt).trans e1
   have f2:=(hb3.cell (p:=⟨w.heap.size + 1 + 1,k * 3 + 2,none⟩) elt).trans e2
   have ff:∀ o,w2.frozen? ⟨w.heap.size + 1 + 1,o,none⟩=false:=fun o => (hb3.frozen (p:=⟨w.heap.size + 1 + 1,o,none⟩) elt).trans (efz o)
   have HI3:=Lib.hid (HSt.out w2 hb3)
   have HX3:=Lib.hid (HX.out.below hb3)
   have HZ3:=Lib.hid (HZ.out.below hb3)
   clear hb2 hb3 h0 h1 h2 h3 h4 h5 e0 e1 e2 efz
   go_wp2_with fail
   go_roundw
   case rel => exact ⟨k + 1,by go_num,HI3.out,((HX3.out.far (p:=⟨w.heap.size + 1 + 1,k * 3,none⟩) (by show w.heap.size ≠ w.heap.size + 1 + 1; omega) _).far (p:=⟨w.heap.size + 1 + 1,k * 3 + 1,none⟩) (by show w.heap.size ≠ w.heap.size + 1 + 1; omega) _).far (p:=⟨w.heap.size + 1 + 1,k * 3 + 2,none⟩) (by show w.heap.size ≠ w.heap.size + 1 + 1; omega) _,(Below.heap_setCell _ ⟨w.heap.size + 1 + 1,k * 3 + 2,none⟩ _ (w.heap.size + 1) (by simp)).trans ((Below.heap_setCell _ ⟨w.heap.size + 1 + 1,k * 3 + 1,none⟩ _ (w.heap.size + 1) (by simp)).trans ((Below.heap_setCell _ ⟨w.heap.size + 1 + 1,k * 3,none⟩ _ (w.heap.size + 1) (by simp)).trans HZ3.out))⟩
   case measure => simp [intOf]; omega
  ·have hkl:k=l.length:=by omega
   subst hkl
   have hE:=HE.out
   rw [← HLn.out] at hE
   have hop:=HOp.out (w.heap.size + 1 + 1) wr hE.vals
   have HO:=Lib.hid hop
   have HBW:=Lib.hid hE.below
   obtain ⟨b0,b1,b2,b3,b4,b5⟩:=HX.out.cells
   clear hE hop
   go_wp2_with fail
   refine HO.out.mono ?_; rintro e w2 ⟨rfl,hb2⟩
   have hz1:=HZ.out.below hb2
   have hbE:=b_set3 (b_trans HBW.out hb2) (w.heap.size + 1) (by omega) (.int .i64 rk) (.int .i64 rn) (.string rs)
   obtain ⟨t0,t1,t2⟩:=hz1.cells
   have v0:=hz1.frozen
   have zl2:=hz1.lt
   clear hz1 hb2
   go_wp2_with fail
   refine bodyPost_ret (v:=.agg #[.int .i64 rk,.int .i64 rn,.string rs]) (by simp [results,Tryz.results73,go_sem,t0,t1,t2]) rfl ⟨rfl,hbE⟩
set_option maxRecDepth 100000 in
set_option maxHeartbeats 2000000 in
theorem of_any (x:Ex) (l:List Fc) (FA:Option Addr) (fc:Nat) (d:Nd) (A:Option Addr) (n c:Nat) (w:World) (hl:l.length<=1000000000000) (hnm:∀ f ∈ l,f.nm.size<=maxLen) (his:Is w x d A n) (hf:Fcs w FA l) (hT:Tab w) :
  Calls Tryz.prog 42 #[.agg #[.int .i64 d.op,.int .i64 d.k,.int .i64 d.n,.string d.s,.string d.nm,.slice A n c],.slice FA l.length fc] w fun e w' => e=.returned (.tuple #[.agg #[.int .i64 (ofV (fcs l) x).k,.int .i64 (ofV (fcs l) x).n,.string (ofV (fcs l) x).s],.int .i64 (ofE (fcs l) x)])/\Below w.heap.size w w':=by
 obtain ⟨R,hR⟩:∃ R,ofV (fcs l) x=R:=⟨_,rfl⟩
 obtain ⟨E,hE⟩:∃ E,ofE (fcs l) x=E:=⟨_,rfl⟩
 rw [hR,hE]
 have hck:=fun W (hb:Below w.heap.size w W) => ExC.check_any x d A n c W (his.below hb) (hT.below hb)
 have hst:=fun W (hb:Below w.heap.size w W) => stated_any l FA fc W hl hnm (hf.below hb)
 obtain ⟨e0,he0⟩:∃ e,x.checkE=e:=⟨_,rfl⟩
 obtain ⟨e1,he1⟩:∃ e,badF (fcs l)=e:=⟨_,rfl⟩
 rw [he0] at hck
 rw [he1] at hst
 have hev:=fun m W (hb:Below w.heap.size w W) (h0:e0=0) (h1:e1=0) (hm:FM W m (fcs l)) => evaluate_any (fcs l) m ((badF_zero _).1 (he1.trans h1)) x (checkE_zero (he0.trans h0)).2.2 d A n c W (his.below hb) hm
 have hEE:E=if e0=0 then e1 else e0:=by rw [← hE]; unfold ofE; rw [he0,he1]
 have hRR:R=if E=0 then Ex.ev (fcs l) x else zeroV:=by rw [← hR]; unfold ofV; rw [hE]
 have hz0:=BV.new (w.alloc (.cells #[.int .i64 d.op,.int .i64 d.k,.int .i64 d.n,.string d.s,.string d.nm,.slice A n c] 41)) 0 0 ⟨#[]⟩
 have hbx:=(Box.new w d A n c).below (b_new _ (.cells #[.int .i64 0,.int .i64 0,.string ⟨#[]⟩] 38))
 have hb1:=b_more (b_new w (.cells #[.int .i64 d.op,.int .i64 d.k,.int .i64 d.n,.string d.s,.string d.nm,.slice A n c] 41)) (.cells #[.int .i64 0,.int .i64 0,.string ⟨#[]⟩] 38)
 rw [World.size_alloc] at hz0
 have HCk:=Lib.hid hck
 have HSt:=Lib.hid hst
 have HEv:=Lib.hid hev
 have HB:=Lib.hid hb1
 have HZ:=Lib.hid hz0
 have HX:=Lib.hid hbx
 clear hck hst hev hb1 hz0 hbx hR hE he0 he1 his hf hT hnm
 go_enter Tryz.func42,Tryz.ntmps42
 go_wp2_with fail
 refine (HCk.out _ HB.out).mono ?_; rintro e w1 ⟨rfl,hb1⟩
 have HB1:=Lib.hid (b_then (b_then hb1))
 have HZ1:=Lib.hid (HZ.out.below hb1)
 have HX1:=Lib.hid (HX.out.below hb1)
 clear hb1
 by_cases h0:e0=0
 ·subst h0
  rw [if_pos rfl] at hEE
  subst hEE
  go_wp2_with fail
  refine (HSt.out _ HB1.out).mono ?_; rintro e w2 ⟨⟨mv,rfl,hmv⟩,hb2⟩
  have HB2:=Lib.hid (b_trans HB1.out hb2)
  have HZ2:=Lib.hid (HZ1.out.below hb2)
  have HX2:=Lib.hid (HX1.out.below hb2)
  have HMv:=Lib.hid hmv
  clear hb2 hmv
  by_cases h1:E=0
  ·subst h1
   rw [if_pos rfl] at hRR
   obtain ⟨m,rfl,hfm⟩:∃ m,mv=.map (some m)/\FM w2 m (fcs l):=by first | exact HMv.out rfl | exact HMv.out trivial
   have hc:=HEv.out m w2 HB2.out (by first | trivial | rfl) (by first | trivial | rfl) hfm
   rw [← hRR] at hc
   obtain ⟨rk,rn,rs⟩:=R
   have HC:=Lib.hid hc
   obtain ⟨b0,b1,b2,b3,b4,b5⟩:=HX2.out.cells
   clear hc hRR hfm
   go_wp2_with fail
   refine HC.out.mono ?_; rintro e w3 ⟨rfl,hb3⟩
   have hz1:=HZ2.out.below hb3
   have hbE:=b_set3 (b_trans HB2.out hb3) (w.heap.size + 1) (by omega) (.int .i64 rk) (.int .i64 rn) (.string rs)
   obtain ⟨t0,t1,t2⟩:=hz1.cells
   have v0:=hz1.frozen
   have zl2:=hz1.lt
   clear hz1 hb3 b0 b1 b2 b3 b4 b5
   go_wp2_with fail
   refine bodyPost_ret (v:=.tuple #[.agg #[.int .i64 rk,.int .i64 rn,.string rs],.int .i64 0]) (by simp [results,Tryz.results42,go_sem,t0,t1,t2]) rfl ⟨rfl,hbE⟩
  ·rw [if_neg h1] at hRR
   subst hRR
   have tE:(E == 0)=false:=beq_eq_false_iff_ne.2 h1
   obtain ⟨t0,t1,t2⟩:=HZ2.out.cells
   have v0:=HZ2.out.frozen
   have zl2:=HZ2.out.lt
   have hbE:=b_set3 HB2.out (w.heap.size + 1) (by omega) (.int .i64 0) (.int .i64 0) (.string ⟨#[]⟩)
   have HBE:=Lib.hid hbE
   clear hbE
   go_wp2_with fail
   refine bodyPost_ret (v:=.tuple #[.agg #[.int .i64 0,.int .i64 0,.string ⟨#[]⟩],.int .i64 E]) (by simp [results,Tryz.results42,go_sem,t0,t1,t2]) rfl ⟨rfl,HBE.out⟩
 ·rw [if_neg h0] at hEE
  subst hEE
  rw [if_neg h0] at hRR
  subst hRR
  have tE:(E == 0)=false:=beq_eq_false_iff_ne.2 h0
  obtain ⟨t0,t1,t2⟩:=HZ1.out.cells
  have v0:=HZ1.out.frozen
  have zl2:=HZ1.out.lt
  have hbE:=b_set3 HB1.out (w.heap.size + 1) (by omega) (.int .i64 0) (.int .i64 0) (.string ⟨#[]⟩)
  have HBE:=Lib.hid hbE
  clear hbE
  go_wp2_with fail
  refine bodyPost_ret (v:=.tuple #[.agg #[.int .i64 0,.int .i64 0,.string ⟨#[]⟩],.int .i64 E]) (by simp [results,Tryz.results42,go_sem,t0,t1,t2]) rfl ⟨rfl,HBE.out⟩
end EvE
end Go.Proofs.YtonlkmkfcaadlaaGreatDoor
