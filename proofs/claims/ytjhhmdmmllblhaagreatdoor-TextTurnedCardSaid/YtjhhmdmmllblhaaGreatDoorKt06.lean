/- Maths NmCopy Ty: what these laws name of them. -/
import Derived.Maps.Own
import Derived.Maps.OwnSet
import Derived.Maps.AppendAt
import Derived.Maps.Range
import Derived.Maps.RangeWalk
import Derived.Test.YtjhhmdmmllblhaaGreatDoorKt05
namespace Go.Proofs.YtjhhmdmmllblhaaGreatDoor
set_option linter.unusedVariables false
namespace TyM
open ExM
def fieldT:List (ByteArray × Int)->ByteArray->Int × Int
 | [],_ => (0,5)
 | f :: l,s => if f.1=s then (f.2,0) else fieldT l s
def ruleReq (op:Int):List Int :=
 if op=3 then [1] else if op=4 then [2] else if op=18 then [3] else if op=17 then [2,0,0] else if op=10 then [3,3]
 else if op=15 ∨ op=16 then [2,2] else if 11<=op/\op<=14 then [0,0] else [1,1]
def ruleRes (op:Int):Int:=if op=17 then 0 else if op=10 then 3 else if op=4 ∨ (11<=op/\op<=16) then 2 else 1
def settl (k last:Int):Int:=if k=0 then last else k
def lastT (ts:List Int):Int:=ts.getD (ts.length - 1) 0
def fitsR (req ts:List Int):Prop:=∀ i,i < req.length->ts.getD i 0=settl (req.getD i 0) (lastT ts)
instance (req ts:List Int):Decidable (fitsR req ts):=by unfold fitsR; exact inferInstance
def applyR (req:List Int) (res:Int) (ts:List Int):Int × Int:=if fitsR req ts then (settl res (lastT ts),0) else (0,9)
def errL:List (Int × Int)->Int
 | [] => 0
 | p :: r => if p.2=0 then errL r else p.2
def tyN (fs:List (ByteArray × Int)) (d:Nd) (ps:List (Int × Int)):Int × Int :=
 if d.op=1 then (d.k,0) else if d.op=2 then fieldT fs d.nm else if errL ps=0 then applyR (ruleReq d.op) (ruleRes d.op) (ps.map (·.1)) else (0,errL ps)
mutual
def Ex.ty (fs:List (ByteArray × Int)):Ex->Int × Int | .mk d l => tyN fs d (tyL fs l)
def tyL (fs:List (ByteArray × Int)):List Ex->List (Int × Int) | [] => [] | x :: l => Ex.ty fs x :: tyL fs l
end
theorem ty_mk (fs:List (ByteArray × Int)) (d:Nd) (l:List Ex):Ex.ty fs (.mk d l)=tyN fs d (tyL fs l):=by simp [Ex.ty]
theorem tyL_nil (fs:List (ByteArray × Int)):tyL fs []=[]:=by simp [tyL]
theorem tyL_cons (fs:List (ByteArray × Int)) (x:Ex) (l:List Ex):tyL fs (x :: l)=Ex.ty fs x :: tyL fs l:=by simp [tyL]
theorem tyL_map (fs:List (ByteArray × Int)) (l:List Ex):tyL fs l=l.map (Ex.ty fs):=by
 induction l with
 | nil => rw [tyL_nil]; rfl
 | cons x l ih => rw [tyL_cons,ih]; rfl
theorem tyL_len (fs:List (ByteArray × Int)) (l:List Ex):(tyL fs l).length=l.length:=by rw [tyL_map,List.length_map]
theorem errL_append (l m:List (Int × Int)):errL (l ++ m)=if errL l=0 then errL m else errL l:=by
 induction l with
 | nil => simp [errL]
 | cons p l ih =>
  rw [List.cons_append,errL,errL,ih]
  by_cases h:p.2=0
  ·rw [if_pos h,if_pos h]
  ·rw [if_neg h,if_neg h,if_neg h]
theorem errL_one (p:Int × Int):errL [p]=p.2:=by
 rw [errL]; split
 ·rename_i h; rw [h]; rfl
 ·rfl
theorem tyL_at (fs:List (ByteArray × Int)) (l:List Ex) (k:Nat) (h:k < l.length):tyL fs (l.take (k + 1))=tyL fs (l.take k) ++ [Ex.ty fs l[k]]:=by
 rw [take_at l k h,tyL_map,tyL_map,List.map_append]; rfl
theorem errL_at (fs:List (ByteArray × Int)) (l:List Ex) (k:Nat) (h:k < l.length) (h0:errL (tyL fs (l.take k))=0):errL (tyL fs (l.take (k + 1)))=(Ex.ty fs l[k]).2:=by
 rw [tyL_at fs l k h,errL_append,if_pos h0,errL_one]
theorem errL_stop (fs:List (ByteArray × Int)) (l:List Ex) (k:Nat) (h:k < l.length) (h0:errL (tyL fs (l.take k))=0) (h1:(Ex.ty fs l[k]).2 ≠ 0):errL (tyL fs l)=(Ex.ty fs l[k]).2:=by
 have e:l=l.take (k + 1) ++ l.drop (k + 1):=(List.take_append_drop _ _).symm
 have e2:tyL fs l=tyL fs (l.take (k + 1)) ++ tyL fs (l.drop (k + 1)):=by
  rw [tyL_map,tyL_map,tyL_map,← List.map_append,List.take_append_drop]
 have e3:=errL_at fs l k h h0
 rw [e2,errL_append,if_neg (by rw [e3]; exact h1),e3]
def ofT (fs:List (ByteArray × Int)) (x:Ex):Int × Int:=if x.checkE=0 then Ex.ty fs x else (0,x.checkE)
def fitsT (fs:List (ByteArray × Int)) (x:Ex) (want:Int):Int:=if (ofT fs x).2=0 then (if (ofT fs x).1=want then 0 else 9) else (ofT fs x).2
theorem fieldT_skip (fs:List (ByteArray × Int)) (s:ByteArray) (k:Nat) (h:∀ j (hj:j < fs.length),j < k->fs[j].1 ≠ s):fieldT fs s=fieldT (fs.drop k) s:=by
 induction k generalizing fs with
 | zero => rw [List.drop_zero]
 | succ k ih =>
  match fs,h with
  | [],_ => rfl
  | f :: l,h =>
   rw [fieldT,if_neg (show ¬ f.1=s from h 0 (by simp) (by omega)),List.drop_succ_cons]
   exact ih l fun j hj hjk => h (j + 1) (by simpa using hj) (by omega)
theorem fieldT_hit (fs:List (ByteArray × Int)) (s:ByteArray) (k:Nat) (hk:k < fs.length) (h:∀ j (hj:j < fs.length),j < k->fs[j].1 ≠ s) (he:fs[k].1=s):fieldT fs s=(fs[k].2,0):=by
 rw [fieldT_skip fs s k h,List.drop_eq_getElem_cons hk,fieldT,if_pos he]
theorem fieldT_none (fs:List (ByteArray × Int)) (s:ByteArray) (h:∀ j (hj:j < fs.length),fs[j].1 ≠ s):fieldT fs s=(0,5):=by
 rw [fieldT_skip fs s fs.length (fun j hj _ => h j hj),List.drop_length]; rfl
theorem ruleReq_len {op:Int} (h1:3<=op) (h2:op<=18):(ruleReq op).length=arity op:=by
 have:op=3 ∨ op=4 ∨ op=5 ∨ op=6 ∨ op=7 ∨ op=8 ∨ op=9 ∨ op=10 ∨ op=11 ∨ op=12 ∨ op=13 ∨ op=14 ∨ op=15 ∨ op=16 ∨ op=17 ∨ op=18:=by omega
 rcases this with h | h | h | h | h | h | h | h | h | h | h | h | h | h | h | h <;> subst h <;> rfl
theorem arity_pos {op:Int} (h1:3<=op):1<=arity op:=by
 unfold arity
 rw [if_neg (by omega)]
 repeat' split
 all_goals omega
theorem okN_op {d:Nd} {l:List Ex} (h:(Ex.mk d l).okN):1<=d.op/\d.op<=18/\l.length=arity d.op:=by
 have:=((okN_mk d l).1 h).1
 unfold nodeE at this
 by_cases h1:d.op < 1 ∨ 18 < d.op
 ·rw [if_pos h1] at this; exact absurd this (by decide)
 ·rw [if_neg h1] at this
  by_cases h2:l.length=arity d.op/\vOk d=true/\nmOk d=true
  ·exact ⟨by omega,by omega,h2.1⟩
  ·rw [if_neg h2] at this; exact absurd this (by decide)
end TyM
namespace NmM
open ExM
def refsN (l:List (Nd × Nat)):List ByteArray:=(l.filter fun y => decide (y.1.op=2)).map fun y => y.1.nm
def Ex.refs (x:Ex):List ByteArray:=refsN x.pre
def refsL (l:List Ex):List ByteArray:=refsN (preL l)
theorem refsN_append (l m:List (Nd × Nat)):refsN (l ++ m)=refsN l ++ refsN m:=by unfold refsN; rw [List.filter_append,List.map_append]
theorem refsL_nil:refsL []=[]:=by unfold refsL; rw [preL_nil]; rfl
theorem refsL_cons (x:Ex) (l:List Ex):refsL (x :: l)=Ex.refs x ++ refsL l:=by unfold refsL Ex.refs; rw [preL_cons,refsN_append]
theorem refsL_append (l m:List Ex):refsL (l ++ m)=refsL l ++ refsL m:=by unfold refsL; rw [preL_append,refsN_append]
theorem refsL_at (l:List Ex) (i:Nat) (h:i < l.length):refsL (l.take (i + 1))=refsL (l.take i) ++ Ex.refs l[i]:=by unfold refsL Ex.refs; rw [preL_at l i h,refsN_append]
theorem refs_mk_pos (d:Nd) (l:List Ex) (h:d.op=2):Ex.refs (.mk d l)=d.nm :: refsL l:=by
 unfold Ex.refs refsL; rw [pre_mk]
 show refsN ((d,l.length) :: preL l)=_
 unfold refsN; rw [List.filter_cons_of_pos (by simp [h])]; rfl
theorem refs_mk_neg (d:Nd) (l:List Ex) (h:d.op ≠ 2):Ex.refs (.mk d l)=refsL l:=by
 unfold Ex.refs refsL; rw [pre_mk]
 show refsN ((d,l.length) :: preL l)=_
 unfold refsN; rw [List.filter_cons_of_neg (by simp [h])]
theorem refs_mk (d:Nd) (l:List Ex):Ex.refs (.mk d l)=(if d.op=2 then [d.nm] else []) ++ refsL l:=by
 by_cases h:d.op=2
 ·rw [refs_mk_pos d l h,if_pos h]; rfl
 ·rw [refs_mk_neg d l h,if_neg h]; rfl
theorem refsN_len (l:List (Nd × Nat)):(refsN l).length<=l.length:=by
 unfold refsN; rw [List.length_map]; exact List.length_filter_le _ _
theorem refs_len (x:Ex):(Ex.refs x).length<=x.nodes:=by
 have:=refsN_len x.pre; rw [pre_len] at this; exact this
theorem refsL_take (l:List Ex) (i:Nat):(refsL (l.take i)).length<=(refsL l).length:=by
 have h:=refsL_append (l.take i) (l.drop i)
 rw [List.take_append_drop] at h
 rw [h,List.length_append]; omega
theorem refs_prefix (l:List Ex) (k:Nat) (hk:k < l.length) {q:List ByteArray} (h:q <+: Ex.refs l[k]):refsL (l.take k) ++ q <+: refsL l:=by
 have e:refsL l=refsL (l.take (k + 1)) ++ refsL (l.drop (k + 1)):=by rw [← refsL_append,List.take_append_drop]
 rw [e,refsL_at l k hk]
 obtain ⟨r,hr⟩:=h
 exact ⟨r ++ refsL (l.drop (k + 1)),by rw [← hr]; simp [List.append_assoc]⟩
def hasB (l:List ByteArray) (s:ByteArray):Bool:=l.any fun t => decide (t=s)
theorem hasB_nil (s:ByteArray):hasB [] s=false:=rfl
theorem hasB_append (l m:List ByteArray) (s:ByteArray):hasB (l ++ m) s=(hasB l s || hasB m s):=by unfold hasB; rw [List.any_append]
theorem hasB_cons (t:ByteArray) (l:List ByteArray) (s:ByteArray):hasB (t :: l) s=(decide (t=s) || hasB l s):=by unfold hasB; rw [List.any_cons]
theorem hasB_true (l:List ByteArray) (s:ByteArray):hasB l s=true ↔ s ∈ l:=by
 unfold hasB; rw [List.any_eq_true]
 constructor
 ·rintro ⟨t,ht,e⟩; rw [decide_eq_true_eq] at e; subst e; exact ht
 ·intro h; exact ⟨s,h,by simp⟩
abbrev Bs:=List UInt8
def place (s:Bs):List Bs->List Bs
 | [] => [s]
 | t :: r => if s < t then s :: t :: r else t :: place s r
def ins (l:List Bs) (s:Bs):List Bs:=if s ∈ l then l else place s l
def rise (l:List Bs):List Bs:=l.foldl ins []
theorem mem_place (s:Bs) (l:List Bs) (x:Bs):x ∈ place s l ↔ x=s ∨ x ∈ l:=by
 induction l with
 | nil => simp [place]
 | cons t r ih =>
  unfold place
  by_cases h:s < t
  ·rw [if_pos h]; simp
  ·rw [if_neg h,List.mem_cons,ih,List.mem_cons]
   constructor
   ·rintro (h | h | h) <;> simp [h]
   ·rintro (h | h | h) <;> simp [h]
theorem mem_ins (l:List Bs) (s x:Bs):x ∈ ins l s ↔ x=s ∨ x ∈ l:=by
 unfold ins
 by_cases h:s ∈ l
 ·rw [if_pos h]
  constructor
  ·exact .inr
  ·rintro (rfl | h2)
   ·exact h
   ·exact h2
 ·rw [if_neg h,mem_place]
theorem lt_or {a b:Bs} (h:¬ a < b) (hne:a ≠ b):b < a:=by
 have h1:b<=a:=List.not_lt.1 h
 by_cases g:b < a
 ·exact g
 ·exact absurd (List.le_antisymm (List.not_lt.1 g) h1) hne
theorem sorted_place (s:Bs) (l:List Bs) (hs:s ∉ l) (h:l.Pairwise (· < ·)):(place s l).Pairwise (· < ·):=by
 induction l with
 | nil => simp [place]
 | cons t r ih =>
  obtain ⟨h1,h2⟩:=List.pairwise_cons.1 h
  have hne:s ≠ t:=fun e => hs (by simp [e])
  unfold place
  by_cases hlt:s < t
  ·rw [if_pos hlt]
   refine List.pairwise_cons.2 ⟨fun x hx => ?_,h⟩
   rcases List.mem_cons.1 hx with e | hx
   ·rw [e]; exact hlt
   ·exact List.lt_trans hlt (h1 x hx)
  ·rw [if_neg hlt]
   refine List.pairwise_cons.2 ⟨fun x hx => ?_,ih (fun hx => hs (by simp [hx])) h2⟩
   rcases (mem_place s r x).1 hx with e | hx
   ·rw [e]; exact lt_or hlt hne
   ·exact h1 x hx
theorem sorted_ins (l:List Bs) (s:Bs) (h:l.Pairwise (· < ·)):(ins l s).Pairwise (· < ·):=by
 unfold ins
 by_cases hs:s ∈ l
 ·rw [if_pos hs]; exact h
 ·rw [if_neg hs]; exact sorted_place s l hs h
theorem place_len (s:Bs) (l:List Bs):(place s l).length=l.length + 1:=by
 induction l with
 | nil => rfl
 | cons t r ih =>
  unfold place
  by_cases h:s < t
  ·rw [if_pos h]; simp
  ·rw [if_neg h,List.length_cons,ih,List.length_cons]
theorem ins_len (l:List Bs) (s:Bs):(ins l s).length<=l.length + 1:=by
 unfold ins
 by_cases hs:s ∈ l
 ·rw [if_pos hs]; omega
 ·rw [if_neg hs,place_len]; omega
theorem rise_all (l:List Bs):(rise l).Pairwise (· < ·)/\(∀ x,x ∈ rise l ↔ x ∈ l)/\(rise l).length<=l.length:=by
 suffices h:∀ (l acc:List Bs),acc.Pairwise (· < ·)->(l.foldl ins acc).Pairwise (· < ·)/\(∀ x,x ∈ l.foldl ins acc ↔ x ∈ acc ∨ x ∈ l)/\(l.foldl ins acc).length<=acc.length + l.length by
  obtain ⟨h1,h2,h3⟩:=h l [] List.Pairwise.nil
  exact ⟨h1,fun x => by rw [rise,h2]; simp,by rw [rise]; simpa using h3⟩
 intro l
 induction l with
 | nil => intro acc h; simp [h]
 | cons s r ih =>
  intro acc h
  obtain ⟨h1,h2,h3⟩:=ih (ins acc s) (sorted_ins acc s h)
  refine ⟨h1,fun x => ?_,?_⟩
  ·rw [List.foldl_cons,h2,mem_ins]
   simp only [List.mem_cons]
   constructor
   ·rintro ((h | h) | h) <;> simp [h]
   ·rintro (h | h | h) <;> simp [h]
  ·rw [List.foldl_cons,List.length_cons]; have:=ins_len acc s; omega
theorem rise_sorted (l:List Bs):(rise l).Pairwise (· < ·):=(rise_all l).1
theorem rise_mem (l:List Bs) (x:Bs):x ∈ rise l ↔ x ∈ l:=(rise_all l).2.1 x
theorem rise_len (l:List Bs):(rise l).length<=l.length:=(rise_all l).2.2
theorem rise_nodup (l:List Bs):(rise l).Nodup:=(rise_sorted l).imp fun h e => by subst e; exact List.lt_irrefl _ h
theorem rise_unique (l ss:List Bs) (hp:ss.Nodup) (hm:∀ x,x ∈ ss ↔ x ∈ l):ss.mergeSort (fun x y => decide (x<=y))=rise l:=by
 have h1:ss.Perm (rise l):=(List.perm_ext_iff_of_nodup hp (rise_nodup l)).2 fun x => by rw [hm,rise_mem]
 have tr:∀ a b c:Bs,(fun x y:Bs => decide (x<=y)) a b=true->(fun x y:Bs => decide (x<=y)) b c=true->(fun x y:Bs => decide (x<=y)) a c=true:=fun a b c h1 h2 => by simp only [decide_eq_true_eq] at *; exact List.le_trans h1 h2
 have tot:∀ a b:Bs,((fun x y:Bs => decide (x<=y)) a b || (fun x y:Bs => decide (x<=y)) b a)=true:=fun a b => by simp only [Bool.or_eq_true,decide_eq_true_eq]; exact List.le_total a b
 refine List.Perm.eq_of_pairwise (le:=fun a b => a<=b) (fun a b _ _ h1 h2 => List.le_antisymm h1 h2) ((List.pairwise_mergeSort tr tot ss).imp fun h => by simpa using h) ((rise_sorted l).imp fun h => List.le_of_lt h) ((List.mergeSort_perm ss _).trans h1)
mutual
def Ex.put (n:ByteArray) (y:Ex):Ex->Ex | .mk d l => if d.op=2/\d.nm=n then y else .mk d (putL n y l)
def putL (n:ByteArray) (y:Ex):List Ex->List Ex | [] => [] | x :: l => Ex.put n y x :: putL n y l
end
end NmM
namespace EvM
open Go.Lib
open NumM ValM ExM NmM TyM StrM
end EvM
namespace EvP
open Go.Lib
open NumM ValM ExM NmM TyM StrM EvM
end EvP
namespace FoM
open Go.Lib
open NumM ValM ExM NmM TyM StrM EvM EvP
end FoM
namespace NmC
open Go.RowKit
open ExM NmM Kit ExL ExP ExV
set_option linter.unusedVariables false
def RowP (P:Nat->Prop) (w:World) (A:Option Addr) (l:List Ex):Prop:=∀ (j:Nat) (h:j < l.length),∃ a d B n c,A=some a/\P a.block/\At w (a.add (j * 6)) d B n c/\IsP P w l[j] d B n
theorem RowP.mk_ {P:Nat->Prop} {w:World} {A:Option Addr} {l:List Ex} {d:Nd} {n:Nat} (h:RowP P w A l) (hn:n=l.length) (hm:n<=maxLen) (hs:d.s.size<=maxLen) (hnm:d.nm.size<=maxLen):IsP P w (.mk d l) d A n :=
 isP_mk.2 ⟨rfl,hn,⟨hm,hs,hnm⟩,h⟩
theorem set_app {α:Type} (xs r:List α) (j i:Nat) (h:i=xs.length + j) (v:α):(xs ++ r).set i v=xs ++ r.set j v:=by
 subst h; rw [List.set_append_right _ _ (by omega)]; congr 2; omega
end NmC
namespace Ty
open Go.RowKit
open ExM Kit ExL GenL TyM
set_option linter.unusedVariables false
theorem settled_any (k last:Int) (w:World):Calls Tryz.prog 153 #[.int .i64 k,.int .i64 last] w fun e w' => e=.returned (.int .i64 (settl k last))/\w'=w:=by
 by_cases h:k=0
 ·subst h
  go_enter Tryz.func153,Tryz.ntmps153
  go_wp2
  go_ret
  exact ⟨rfl,rfl⟩
 ·have t1:(k == 0)=false:=beq_eq_false_iff_ne.2 h
  rw [show settl k last=k from if_neg h]
  go_enter Tryz.func153,Tryz.ntmps153
  go_wp2
  go_ret
  exact ⟨rfl,rfl⟩
theorem still_drawn {P:Program} {f:FuncId} {args:Array Value} {w:World} {i j:Nat} {v:Value} (c:∀ W,Calls P f args W fun e w' => e=.returned v/\w'=W) :
  Calls P f args (w.drewN (i + j)) fun e w' => e=.returned v/\∃ k,w'=w.drewN (i + k):=(c _).mono fun _ _ h => ⟨h.1,j,h.2⟩
def IntsAt (w:World) (b:Nat) (l:List Int):Prop:=∀ i,i < l.length->w.cell? ⟨b,i,none⟩=some (.int .i64 (l.getD i 0))
theorem IntsAt.below {w w':World} {b:Nat} {l:List Int} (h:IntsAt w b l) (hb:Below w.heap.size w w'):IntsAt w' b l:=fun i hi =>
 (hb.cell (p:=⟨b,i,none⟩) (cell_lt' (h i hi))).trans (h i hi)
set_option maxHeartbeats 1000000 in
theorem apply_any (req ts:List Int) (res:Int) (rb tb rc tc:Nat) (w:World) (hr:IntsAt w rb req) (ht:IntsAt w tb ts) (hle:req.length<=ts.length) (hpos:1<=ts.length) (hmax:ts.length<=1000) :
  Calls Tryz.prog 137 #[.agg #[.slice (some ⟨rb,0,none⟩) req.length rc,.int .i64 res],.slice (some ⟨tb,0,none⟩) ts.length tc] w fun e w' => e=.returned (.tuple #[.int .i64 (applyR req res ts).1,.int .i64 (applyR req res ts).2])/\Below w.heap.size w w':=by
 obtain ⟨last,hlast⟩:∃ a,lastT ts=a:=⟨_,rfl⟩
 obtain ⟨M,hM⟩:∃ M,ts.length=M + 1:=⟨ts.length - 1,by omega⟩
 obtain ⟨N,hN⟩:∃ N,req.length=N:=⟨_,rfl⟩
 have hl:=ht M (by omega)
 have e1:ts.getD M 0=last:=by rw [← hlast]; unfold lastT; rw [hM]; rfl
 rw [e1] at hl
 have hgood:(∀ i,i < N->ts.getD i 0=settl (req.getD i 0) last)->applyR req res ts=(settl res last,0):=fun h => by
  unfold applyR; rw [if_pos (by unfold fitsR; rw [hN,hlast]; exact h),hlast]
 have hbad:∀ i,i < N->ts.getD i 0 ≠ settl (req.getD i 0) last->applyR req res ts=(0,9):=fun i hi h => by
  unfold applyR; rw [if_neg (by unfold fitsR; rw [hN,hlast]; exact fun g => h (g i hi))]
 rw [hM] at hle hmax
 rw [hN] at hle
 obtain ⟨R,hR⟩:∃ R,applyR req res ts=R:=⟨_,rfl⟩
 rw [hR] at hgood hbad ⊢
 rw [hM,hN]
 have hr2:∀ i,i < N->w.cell? ⟨rb,i,none⟩=some (.int .i64 (req.getD i 0)):=fun i hi => hr i (by omega)
 have ht2:∀ i,i < N->w.cell? ⟨tb,i,none⟩=some (.int .i64 (ts.getD i 0)):=fun i hi => ht i (by omega)
 have hi1:((M + 1:Nat):Int) - 1=(M:Int):=by omega
 have hw:IntKind.i64.wrap (((M + 1:Nat):Int) - 1)=(M:Int):=by rw [hi1]; exact IntWalk.i64_in _ (by omega)
 have HG:=Lib.hid hgood
 have HB:=Lib.hid hbad
 have HR2:=Lib.hid hr2
 have HT2:=Lib.hid ht2
 have htl:tb < w.heap.size:=cell_lt' hl
 clear hgood hbad hr2 ht2 hr ht hR hM hN hlast e1 hpos
 go_enter Tryz.func137,Tryz.ntmps137
 go_wp2_with fail
 go_loopw [7,8,18] (fun _ _ i wr => ∃ (k m:Nat),i=.int .i64 k/\k<=N/\(∀ j,j < k->ts.getD j 0=settl (req.getD j 0) last)/\wr=(w.alloc (.cells #[.slice (some ⟨rb,0,none⟩) N rc,.int .i64 res] 206)).drewN m) (fun _ _ i _ => N - (intOf i).toNat)
 case atStart => exact ⟨0,0,rfl,Nat.zero_le _,fun j hj => absurd hj (by omega),rfl⟩
 case round =>
  obtain ⟨k,m,rfl,hk,hall,rfl⟩:=hrel
  have hbw:=b_drewN (b_new w (.cells #[.slice (some ⟨rb,0,none⟩) N rc,.int .i64 res] 206)) m
  by_cases hlt:k < N
  ·have h1:=hbw.cell (p:=⟨rb,k,none⟩) (cell_lt' (HR2.out k hlt))
   rw [HR2.out k hlt] at h1
   have h2:=hbw.cell (p:=⟨tb,k,none⟩) (cell_lt' (HT2.out k hlt))
   rw [HT2.out k hlt] at h2
   obtain ⟨x,hx⟩:∃ a,ts.getD k 0=a:=⟨_,rfl⟩
   obtain ⟨y,hy⟩:∃ a,req.getD k 0=a:=⟨_,rfl⟩
   obtain ⟨z,hz⟩:∃ a,settl y last=a:=⟨_,rfl⟩
   have hc:=fun W => settled_any y last W
   rw [hx] at h2
   rw [hy] at h1
   rw [hz] at hc
   have hb:=HB.out k hlt
   rw [hx,hy,hz] at hb
   have hnext:x=z->∀ j,j < k + 1->ts.getD j 0=settl (req.getD j 0) last:=fun e j hj => by
    rcases Nat.lt_or_ge j k with h | h
    ·exact hall j h
    ·obtain rfl:j=k:=by omega
     rw [hx,hy,hz]; exact e
   have HC:=Lib.hid hc
   have HN:=Lib.hid hnext
   have HB2:=Lib.hid hb
   have HBW:=Lib.hid hbw
   have h3:=HT2.out k hlt
   rw [hx] at h3
   clear hc hnext hb hx hy hz hall hbw
   have hkM:(k:Int) < (M:Int) + 1:=by omega
   by_cases hxz:x=z
   ·subst hxz
    go_wp2_with fail
    go_quiet ((go_at_call 153; exact still_drawn HC.out))
    go_wp2_with fail
    go_roundw
    case rel => exact ⟨k + 1,_,by go_num,by omega,(by first | exact HN.out rfl | exact HN.out trivial),rfl⟩
    case measure => simp [intOf]; omega
   ·have t1:(x == z)=false:=beq_eq_false_iff_ne.2 hxz
    obtain rfl:=HB2.out hxz
    go_wp2_with fail
    go_quiet ((go_at_call 153; exact still_drawn HC.out))
    go_wp2_with fail
    go_ret2
    exact ⟨rfl,b_drewN (b_new w _) _⟩
  ·obtain rfl:k=N:=by omega
   have hg:=HG.out hall
   subst hg
   have hc:=fun W => settled_any res last W
   have HC:=Lib.hid hc
   have HBW:=Lib.hid hbw
   clear hc hall hbw
   go_wp2_with fail
   refine (HC.out _).mono ?_; rintro e w2 ⟨rfl,rfl⟩
   go_wp2_with fail
   go_ret2
   exact ⟨rfl,b_drewN (b_new w _) _⟩
def fts (fs:List GenL.Fd):List (ByteArray × Int):=fs.map fun f => (f.nm,f.ty)
theorem fts_len (fs:List GenL.Fd):(fts fs).length=fs.length:=by unfold fts; rw [List.length_map]
theorem fts_at (fs:List GenL.Fd) (k:Nat) (h:k < fs.length) (g:k < (fts fs).length):(fts fs)[k]=(fs[k].nm,fs[k].ty):=by simp only [fts,List.getElem_map]
theorem fieldT_fts {fs:List GenL.Fd} {s:ByteArray} {k:Nat} (hk:k < fs.length) (h:∀ j (hj:j < fs.length),j < k->fs[j].nm ≠ s) (he:fs[k].nm=s):fieldT (fts fs) s=(fs[k].ty,0):=by
 rw [fieldT_hit (fts fs) s k (by rw [fts_len]; exact hk) (fun j hj hjk => by rw [fts_len] at hj; rw [fts_at fs j hj]; exact h j hj hjk) (by rw [fts_at fs k hk]; exact he),fts_at fs k hk]
theorem fieldT_fts_none {fs:List GenL.Fd} {s:ByteArray} (h:∀ j (hj:j < fs.length),fs[j].nm ≠ s):fieldT (fts fs) s=(0,5) :=
 fieldT_none _ _ fun j hj => by rw [fts_len] at hj; rw [fts_at fs j hj]; exact h j hj
set_option maxHeartbeats 1000000 in
theorem field_any (s:ByteArray) (fs:List GenL.Fd) (FA:Option Addr) (fc:Nat) (w:World) (hf:Flds w FA fs) (hm:fs.length<=1000000000000) :
  Calls Tryz.prog 136 #[.string s,.slice FA fs.length fc] w fun e w' => e=.returned (.tuple #[.int .i64 (fieldT (fts fs) s).1,.int .i64 (fieldT (fts fs) s).2])/\w'=w:=by
 obtain ⟨R,hR⟩:∃ R,fieldT (fts fs) s=R:=⟨_,rfl⟩
 have hgood:=fun k hk h he => (fieldT_fts (fs:=fs) (s:=s) (k:=k) hk h he).symm.trans hR
 have hbad:=fun h => (fieldT_fts_none (fs:=fs) (s:=s) h).symm.trans hR
 rw [hR]
 have HG:=Lib.hid hgood
 have HB:=Lib.hid hbad
 have HF:=Lib.hid hf
 clear hgood hbad hR hf
 go_enter Tryz.func136,Tryz.ntmps136
 go_wp2_with fail
 go_loopw [6,9] (fun _ i wr => ∃ (k:Nat),i=.int .i64 k/\k<=fs.length/\(∀ j (hj:j < fs.length),j < k->fs[j].nm ≠ s)/\wr=w) (fun _ i _ => fs.length - (intOf i).toNat)
 case atStart => exact ⟨0,rfl,Nat.zero_le _,fun j hj hjk => absurd hjk (by omega),rfl⟩
 case round =>
  obtain ⟨k,rfl,hk,hall,rfl⟩:=hrel
  by_cases hlt:k < fs.length
  ·obtain ⟨a,rfl,h0,h1,h2,h3⟩:=HF.out k hlt
   have hg:=HG.out k hlt hall
   have hnext:fs[k].nm ≠ s->∀ j (hj:j < fs.length),j < k + 1->fs[j].nm ≠ s:=fun e j hj hjk => by
    rcases Nat.lt_or_ge j k with h | h
    ·exact hall j hj h
    ·obtain rfl:j=k:=by omega
     exact e
   obtain ⟨nm,hnm⟩:∃ a,fs[k].nm=a:=⟨_,rfl⟩
   obtain ⟨ty,hty⟩:∃ a,fs[k].ty=a:=⟨_,rfl⟩
   rw [hnm] at hg hnext h0
   rw [hty] at hg h2
   have HG2:=Lib.hid hg
   have HN:=Lib.hid hnext
   clear hg hnext hall hnm hty h3 h1
   by_cases he:nm=s
   ·obtain rfl:=HG2.out he
    have t1:(nm.toList == s.toList)=true:=by rw [ByteArray.toList_eq,ByteArray.toList_eq,he]; simp
    go_wp2_with fail
    go_ret2
    exact ⟨rfl,rfl⟩
   ·have t1:(nm.toList == s.toList)=false:=beq_eq_false_iff_ne.2 fun e => he (by
     rw [ByteArray.toList_eq,ByteArray.toList_eq] at e
     exact ByteArray.ext (Array.ext' e))
    go_wp2_with fail
    go_roundw
    case rel => exact ⟨k + 1,by go_num,by omega,HN.out he,by first | rfl | trivial⟩
    case measure => simp [intOf]; omega
  ·obtain rfl:=HB.out fun j hj => hall j hj (by omega)
   clear hall
   go_wp2_with fail
   go_ret2
   exact ⟨rfl,rfl⟩
end Ty
namespace TyT
open Go.RowKit Go.Maps
open ExM Kit ExL GenL TyM Ty
set_option linter.unusedVariables false
def hv (v:Value):Option (DataW Value × List MemPlace):=some (.held v,[])
theorem intKeyed:Keyed Tryz.prog 3:=int_keyed Tryz.underlying3
theorem keyI {a:Int} (h:(Lit.int .i64 a).wf=true):keyOf Tryz.prog 3 (.int .i64 a)=some (.int .i64 a):=keyOf_int_mk Tryz.underlying3 h
def ruleV (b c:Nat) (op:Int):Value:=.agg #[.slice (some ⟨b,0,none⟩) (ruleReq op).length c,.int .i64 (ruleRes op)]
theorem ints_grown {W W':World} {m b:Nat} {l:List Int} (h:IntsAt W b l) (hg:W.grownBy W' (some m)) (hne:b ≠ m):IntsAt W' b l:=fun i hi =>
 hg.cell (h i hi) (fun e => hne (by injection e))
theorem ints_new (w:World) (l:List Int) (t:TypeId):IntsAt (w.alloc (.cells (l.map (Value.int .i64)).toArray t)) w.heap.size l:=fun i hi => by
 have h:=World.alloc_heap_new w (.cells (l.map (Value.int .i64)).toArray t)
 unfold World.cell?
 rw [h]
 simp [hi]
theorem grown_alloc {W0 W:World} {m:Nat} (h:W0.grownBy W (some m)) (o:Obj):W0.grownBy (W.alloc o) (some m):=h.trans ((World.grownBy_alloc W o none).but (some m))
structure Part (W0 W:World) (m n:Nat) (ops:List Int):Prop where
 grown:W0.grownBy W (some m)
 own:∃ D,W.ownsMap Tryz.prog 3 hv m n D/\∀ op ∈ ops,∃ b c,b ≠ m/\D.atKey (.int .i64 op) .nil=.held (ruleV b c op)/\IntsAt W b (ruleReq op)
theorem Part.made (w:World):Part (w.alloc (.map #[] 0)) (w.alloc (.map #[] 0)) w.heap.size 0 [] :=
 ⟨World.grownBy.refl _ _,_,World.ownsMap_made w _ _ _,fun op h => absurd h (by simp)⟩
theorem Part.alloc {W0 W:World} {m n:Nat} {ops:List Int} (h:Part W0 W m n ops) (o:Obj):Part W0 (W.alloc o) m n ops:=by
 obtain ⟨hg,D,hD,hall⟩:=h
 refine ⟨grown_alloc hg o,D,hD.alloc o,fun op hop => ?_⟩
 obtain ⟨b,c,h1,h2,h3⟩:=hall op hop
 exact ⟨b,c,h1,h2,h3.below (b_new _ _)⟩
theorem Part.put {W0 W W':World} {m n:Nat} {ops:List Int} {D:DataW Value} {op:Int} {b c:Nat} (h:Part W0 W m n ops) (hD:W.ownsMap Tryz.prog 3 hv m n D) (hall:∀ op ∈ ops,∃ b c,b ≠ m/\D.atKey (.int .i64 op) .nil=.held (ruleV b c op)/\IntsAt W b (ruleReq op))
  (hown:W'.ownsMap Tryz.prog 3 hv m (n + 1) (D.put (.int .i64 op) (.held (ruleV b c op)))) (hg:W.grownBy W' (some m)) (hw:(Lit.int .i64 op).wf=true) (hnew:op ∉ ops) (hb:b ≠ m) (hI:IntsAt W b (ruleReq op)):Part W0 W' m (n + 1) (op :: ops):=by
 refine ⟨h.grown.trans hg,_,hown,fun op' hop => ?_⟩
 by_cases he:op'=op
 ·subst he
  exact ⟨b,c,hb,atKey_put_same hD.isMap (by trivial) _ _,ints_grown hI hg hb⟩
 ·obtain ⟨b',c',h1,h2,h3⟩:=hall op' ((List.mem_cons.1 hop).resolve_left he)
  exact ⟨b',c',h1,by rw [atKey_put_other (fun e => he (by injection e))]; exact h2,ints_grown h3 hg h1⟩
theorem run_rule {W0 W:World} {m n:Nat} {os:List Int} (h:Part W0 W m n os) (hn:n < maxLen) (op:Int) (b c len:Nat) (res:Int) (req:List Int) (hreq:ruleReq op=req) (hlen:req.length=len) (hres:ruleRes op=res)
  (hw:(Lit.int .i64 op).wf=true) (hnew:op ∉ os) (hb:b ≠ m) (hI:IntsAt W b req) :
  ∃ w',(Instr.mapUpdate 174 (.map (some m)) (.int .i64 op) (.agg #[.slice (some ⟨b,0,none⟩) len c,.int .i64 res])).run Tryz.prog W=.ok () w'/\Part W0 w' m (n + 1) (op :: os):=by
 obtain ⟨D,hD,hall⟩:=h.own
 subst hreq hlen hres
 obtain ⟨w',hrun,r1,r2⟩:=hD.update intKeyed Tryz.underlying174 hn (keyI hw) (val:=ruleV b c op) (d:=.held (ruleV b c op)) (ps:=[]) rfl
 exact ⟨w',hrun,h.put hD hall r1 r2 hw hnew hb hI⟩
def Rules (W:World) (m:Nat):Prop:=∃ n D,W.ownsMap Tryz.prog 3 hv m n D/\∀ op:Int,3<=op->op<=18->∃ b c,D.atKey (.int .i64 op) .nil=.held (ruleV b c op)/\IntsAt W b (ruleReq op)
theorem Rules.below {W W':World} {m:Nat} (h:Rules W m) (hb:Below W.heap.size W W'):Rules W' m:=by
 obtain ⟨n,D,hD,hall⟩:=h
 have hg:W.grownBy W' none:=⟨hb.os,hb.tape,hb.output,hb.size,fun k hk _ => hb.block k hk⟩
 refine ⟨n,D,hD.kept hg (by simp),fun op h1 h2 => ?_⟩
 obtain ⟨b,c,h3,h4⟩:=hall op h1 h2
 exact ⟨b,c,h3,h4.below hb⟩
set_option maxRecDepth 100000 in
theorem Rules.look {W:World} {m:Nat} (h:Rules W m) {op:Int} (h1:3<=op) (h2:op<=18):∃ b c,(Instr.lookup 174 (.map (some m)) (.int .i64 op) false).run Tryz.prog W=.ok (.agg #[.slice (some ⟨b,0,none⟩) (ruleReq op).length c,.int .i64 (ruleRes op)]) W/\IntsAt W b (ruleReq op):=by
 obtain ⟨n,D,hD,hall⟩:=h
 obtain ⟨b,c,h3,h4⟩:=hall op h1 h2
 have hw:(Lit.int .i64 op).wf=true:=WalkArith.wf_i64 (by omega)
 obtain ⟨es,clock,hb,F,_,rfl⟩:=hD
 rcases Maps.fit_look false intKeyed Tryz.underlying174 (z:=.agg #[.slice none 0 0,.int .i64 0]) (by kernel_rfl) hb F (keyI hw) with ⟨hrun,_,hat⟩ | ⟨e0,y,_,_,hrun,hRv,hat,_⟩
 ·have:=hat .nil
  rw [h3] at this; cases this
 ·have:=hat .nil
  rw [h3] at this
  have hy:y=(.held (e0.val),[]):=by
   have:hv e0.val=some y:=hRv
   unfold hv at this; injection this with this; exact this.symm
  subst hy
  have h6:DataW.held (ruleV b c op)=DataW.held e0.val:=this
  injection h6 with h5
  exact ⟨b,c,by rw [hrun,← h5]; rfl,h4⟩
set_option maxRecDepth 100000 in
set_option maxHeartbeats 4000000 in
theorem rules_any (w:World):Calls Tryz.prog 112 #[] w fun e w' => (∃ m,e=.returned (.map (some m))/\Rules w' m)/\Below w.heap.size w w':=by
 obtain ⟨V6,hV6⟩:∃ V,((((((w.alloc (.cells #[.int .i64 1,.int .i64 1] 3)).alloc (.cells #[.slice (some ⟨w.heap.size,0,none⟩) 2 2,.int .i64 1] 206)).alloc (.cells #[.int .i64 2,.int .i64 2] 3)).alloc (.cells #[.slice (some ⟨w.heap.size + 1 + 1,0,none⟩) 2 2,.int .i64 2] 206)).alloc (.cells #[.int .i64 0,.int .i64 0] 3)).alloc (.cells #[.slice (some ⟨w.heap.size + 1 + 1 + 1 + 1,0,none⟩) 2 2,.int .i64 2] 206))=V:=⟨_,rfl⟩
 have hB6:Below w.heap.size w V6:=by rw [← hV6]; exact b_more (b_more (b_more (b_more (b_more (b_new _ _) _) _) _) _) _
 have hs6:V6.heap.size=w.heap.size + 1 + 1 + 1 + 1 + 1 + 1:=by rw [← hV6]; simp
 have i1:IntsAt V6 (w.heap.size) [1,1]:=by
  rw [← hV6]; exact (((((ints_new w [1,1] 3).below (b_new _ _)).below (b_new _ _)).below (b_new _ _)).below (b_new _ _)).below (b_new _ _)
 have i2:IntsAt V6 (w.heap.size + 1 + 1) [2,2]:=by
  rw [← hV6]
  have:=ints_new ((w.alloc (.cells #[.int .i64 1,.int .i64 1] 3)).alloc (.cells #[.slice (some ⟨w.heap.size,0,none⟩) 2 2,.int .i64 1] 206)) [2,2] 3
  simp only [World.size_alloc] at this
  exact ((this.below (b_new _ _)).below (b_new _ _)).below (b_new _ _)
 have i3:IntsAt V6 (w.heap.size + 1 + 1 + 1 + 1) [0,0]:=by
  rw [← hV6]
  have:=ints_new ((((w.alloc (.cells #[.int .i64 1,.int .i64 1] 3)).alloc (.cells #[.slice (some ⟨w.heap.size,0,none⟩) 2 2,.int .i64 1] 206)).alloc (.cells #[.int .i64 2,.int .i64 2] 3)).alloc (.cells #[.slice (some ⟨w.heap.size + 1 + 1,0,none⟩) 2 2,.int .i64 2] 206)) [0,0] 3
  simp only [World.size_alloc] at this
  exact this.below (b_new _ _)
 have bx:V6.cell? ⟨w.heap.size + 1,0,none⟩=some (.slice (some ⟨w.heap.size,0,none⟩) 2 2)/\V6.cell? ⟨w.heap.size + 1,1,none⟩=some (.int .i64 1)/\V6.cell? ⟨w.heap.size + 1 + 1 + 1,0,none⟩=some (.slice (some ⟨w.heap.size + 1 + 1,0,none⟩) 2 2)/\V6.cell? ⟨w.heap.size + 1 + 1 + 1,1,none⟩=some (.int .i64 2)/\V6.cell? ⟨w.heap.size + 1 + 1 + 1 + 1 + 1,0,none⟩=some (.slice (some ⟨w.heap.size + 1 + 1 + 1 + 1,0,none⟩) 2 2)/\V6.cell? ⟨w.heap.size + 1 + 1 + 1 + 1 + 1,1,none⟩=some (.int .i64 2):=by
  rw [← hV6]; simp [go_sem]
 have hP0:=Part.made V6
 have hb7:=b_new V6 (.map #[] 0)
 have hgb:∀ (W:World) (n:Nat) (os:List Int),Part (V6.alloc (.map #[] 0)) W V6.heap.size n os->(W.cell? ⟨w.heap.size + 1,0,none⟩=some (.slice (some ⟨w.heap.size,0,none⟩) 2 2)/\W.cell? ⟨w.heap.size + 1,1,none⟩=some (.int .i64 1)/\W.cell? ⟨w.heap.size + 1 + 1 + 1,0,none⟩=some (.slice (some ⟨w.heap.size + 1 + 1,0,none⟩) 2 2)/\W.cell? ⟨w.heap.size + 1 + 1 + 1,1,none⟩=some (.int .i64 2)/\W.cell? ⟨w.heap.size + 1 + 1 + 1 + 1 + 1,0,none⟩=some (.slice (some ⟨w.heap.size + 1 + 1 + 1 + 1,0,none⟩) 2 2)/\W.cell? ⟨w.heap.size + 1 + 1 + 1 + 1 + 1,1,none⟩=some (.int .i64 2))/\(IntsAt W (w.heap.size) [1,1]/\IntsAt W (w.heap.size + 1 + 1) [2,2]/\IntsAt W (w.heap.size + 1 + 1 + 1 + 1) [0,0])/\V6.heap.size < W.heap.size:=fun W n os h => by
  obtain ⟨x0,x1,x2,x3,x4,x5⟩:=bx
  have k:∀ {p:Addr} {v:Value},V6.cell? p=some v->W.cell? p=some v:=fun {p v} hp => by
   have hl:=cell_lt' hp
   exact h.grown.cell ((hb7.cell (p:=p) hl).trans hp) (fun e => by injection e; omega)
  have ki:∀ {b:Nat} {l:List Int},IntsAt V6 b l->IntsAt W b l:=fun {b l} hi i hl => k (hi i hl)
  exact ⟨⟨k x0,k x1,k x2,k x3,k x4,k x5⟩,⟨ki i1,ki i2,ki i3⟩,Nat.lt_of_lt_of_le (by simp [hs6]) h.grown.size⟩
 have HGB:=Lib.hid hgb
 have HB6:=Lib.hid hB6
 have HP0:=Lib.hid hP0
 have hend:∀ W n,Part (V6.alloc (.map #[] 0)) W V6.heap.size n [18,17,16,15,14,13,12,11,10,9,8,7,6,5,4,3]->(∃ m,Ending.returned (.map (some V6.heap.size))=.returned (.map (some m))/\Rules W m)/\Below w.heap.size w W:=fun W n h => by
  refine ⟨⟨_,rfl,?_⟩,?_⟩
  ·obtain ⟨D,hD,hall⟩:=h.own
   refine ⟨n,D,hD,fun op h1 h2 => ?_⟩
   obtain ⟨b,c,_,h3,h4⟩:=hall op (by simp only [List.mem_cons,List.not_mem_nil,or_false]; omega)
   exact ⟨b,c,h3,h4⟩
  ·exact ((hB6.trans (hb7.mono hB6.size))).grown h.grown (by simp; omega) (fun k e => by injection e; omega)
 have HE:=Lib.hid hend
 have hmm:=@run_makeMap Tryz.prog
 clear hgb hB6 hP0 hend hb7 bx i1 i2 i3
 obtain ⟨w1,hr1,hP1⟩:=run_rule (HP0.out.alloc (.cells #[.int .i64 1] 3)) (by unfold maxLen; omega) 3 (V6.heap.size + 1) 1 1 1 [1] rfl rfl rfl rfl (by decide) (by have:=(HGB.out _ _ _ HP0.out).2.2; omega) ((by have:=ints_new (V6.alloc (.map #[] 0)) [1] 3; rw [World.size_alloc] at this; exact this))
 obtain ⟨w2,hr2,hP2⟩:=run_rule (hP1.alloc (.cells #[.int .i64 2] 3)) (by unfold maxLen; omega) 4 w1.heap.size 1 1 2 [2] rfl rfl rfl rfl (by decide) (by have:=(HGB.out _ _ _ hP1).2.2; omega) (ints_new w1 [2] 3)
 obtain ⟨y2,z2,_,_,_,_⟩:=(HGB.out _ _ _ hP2).1
 obtain ⟨w3,hr3,hP3⟩:=run_rule hP2 (by unfold maxLen; omega) 5 (w.heap.size) 2 2 1 [1,1] rfl rfl rfl rfl (by decide) (by omega) (HGB.out _ _ _ hP2).2.1.1
 obtain ⟨y3,z3,_,_,_,_⟩:=(HGB.out _ _ _ hP3).1
 obtain ⟨w4,hr4,hP4⟩:=run_rule hP3 (by unfold maxLen; omega) 6 (w.heap.size) 2 2 1 [1,1] rfl rfl rfl rfl (by decide) (by omega) (HGB.out _ _ _ hP3).2.1.1
 obtain ⟨y4,z4,_,_,_,_⟩:=(HGB.out _ _ _ hP4).1
 obtain ⟨w5,hr5,hP5⟩:=run_rule hP4 (by unfold maxLen; omega) 7 (w.heap.size) 2 2 1 [1,1] rfl rfl rfl rfl (by decide) (by omega) (HGB.out _ _ _ hP4).2.1.1
 obtain ⟨y5,z5,_,_,_,_⟩:=(HGB.out _ _ _ hP5).1
 obtain ⟨w6,hr6,hP6⟩:=run_rule hP5 (by unfold maxLen; omega) 8 (w.heap.size) 2 2 1 [1,1] rfl rfl rfl rfl (by decide) (by omega) (HGB.out _ _ _ hP5).2.1.1
 obtain ⟨y6,z6,_,_,_,_⟩:=(HGB.out _ _ _ hP6).1
 obtain ⟨w7,hr7,hP7⟩:=run_rule hP6 (by unfold maxLen; omega) 9 (w.heap.size) 2 2 1 [1,1] rfl rfl rfl rfl (by decide) (by omega) (HGB.out _ _ _ hP6).2.1.1
 obtain ⟨w8,hr8,hP8⟩:=run_rule (hP7.alloc (.cells #[.int .i64 3,.int .i64 3] 3)) (by unfold maxLen; omega) 10 w7.heap.size 2 2 3 [3,3] rfl rfl rfl rfl (by decide) (by have:=(HGB.out _ _ _ hP7).2.2; omega) (ints_new w7 [3,3] 3)
 obtain ⟨_,_,_,_,y8,z8⟩:=(HGB.out _ _ _ hP8).1
 obtain ⟨w9,hr9,hP9⟩:=run_rule hP8 (by unfold maxLen; omega) 11 (w.heap.size + 1 + 1 + 1 + 1) 2 2 2 [0,0] rfl rfl rfl rfl (by decide) (by omega) (HGB.out _ _ _ hP8).2.1.2.2
 obtain ⟨_,_,_,_,y9,z9⟩:=(HGB.out _ _ _ hP9).1
 obtain ⟨w10,hr10,hP10⟩:=run_rule hP9 (by unfold maxLen; omega) 12 (w.heap.size + 1 + 1 + 1 + 1) 2 2 2 [0,0] rfl rfl rfl rfl (by decide) (by omega) (HGB.out _ _ _ hP9).2.1.2.2
 obtain ⟨_,_,_,_,y100,y10⟩:=(HGB.out _ _ _ hP10).1
 obtain ⟨w11,hr11,hP11⟩:=run_rule hP10 (by unfold maxLen; omega) 13 (w.heap.size + 1 + 1 + 1 + 1) 2 2 2 [0,0] rfl rfl rfl rfl (by decide) (by omega) (HGB.out _ _ _ hP10).2.1.2.2
 obtain ⟨_,_,_,_,y111,y11⟩:=(HGB.out _ _ _ hP11).1
 obtain ⟨w12,hr12,hP12⟩:=run_rule hP11 (by unfold maxLen; omega) 14 (w.heap.size + 1 + 1 + 1 + 1) 2 2 2 [0,0] rfl rfl rfl rfl (by decide) (by omega) (HGB.out _ _ _ hP11).2.1.2.2
 obtain ⟨_,_,y122,y12,_,_⟩:=(HGB.out _ _ _ hP12).1
 obtain ⟨w13,hr13,hP13⟩:=run_rule hP12 (by unfold maxLen; omega) 15 (w.heap.size + 1 + 1) 2 2 2 [2,2] rfl rfl rfl rfl (by decide) (by omega) (HGB.out _ _ _ hP12).2.1.2.1
 obtain ⟨_,_,y133,y13,_,_⟩:=(HGB.out _ _ _ hP13).1
 obtain ⟨w14,hr14,hP14⟩:=run_rule hP13 (by unfold maxLen; omega) 16 (w.heap.size + 1 + 1) 2 2 2 [2,2] rfl rfl rfl rfl (by decide) (by omega) (HGB.out _ _ _ hP13).2.1.2.1
 obtain ⟨w15,hr15,hP15⟩:=run_rule (hP14.alloc (.cells #[.int .i64 2,.int .i64 0,.int .i64 0] 3)) (by unfold maxLen; omega) 17 w14.heap.size 3 3 0 [2,0,0] rfl rfl rfl rfl (by decide) (by have:=(HGB.out _ _ _ hP14).2.2; omega) (ints_new w14 [2,0,0] 3)
 obtain ⟨w16,hr16,hP16⟩:=run_rule (hP15.alloc (.cells #[.int .i64 3] 3)) (by unfold maxLen; omega) 18 w15.heap.size 1 1 1 [3] rfl rfl rfl rfl (by decide) (by have:=(HGB.out _ _ _ hP15).2.2; omega) (ints_new w15 [3] 3)
 have HZ:=HE.out _ _ hP16
 have HZ2:=Lib.hid HZ
 clear HZ hs6 hP1 hP2 hP3 hP4 hP5 hP6 hP7 hP8 hP9 hP10 hP11 hP12 hP13 hP14 hP15 hP16
 go_enter Tryz.func112,Tryz.ntmps112
 go_wp2_with fail
 go_ret
 exact HZ2.out
end TyT
namespace TyO
open Go.RowKit
open ExM Kit ExL GenL TyM Ty TyT ExN
set_option linter.unusedVariables false
theorem infoI:(Tryz.prog.info? 3).map (fun i => (i.zero,i.size,i.bytes))=some (some (.int .i64 0),1,8):=by kernel_rfl
def vals (l:List (Int × Int)):List Value:=l.map fun p => .int .i64 p.1
theorem vals_len (l:List (Int × Int)):(vals l).length=l.length:=by unfold vals; rw [List.length_map]
theorem vals_snoc (l:List (Int × Int)) (p:Int × Int):vals (l ++ [p])=vals l ++ [.int .i64 p.1]:=by unfold vals; rw [List.map_append]; rfl
theorem ints_vals (w:World) (b:Nat) (l:List (Int × Int)) (h:∀ j,j < l.length->w.cell? ⟨b,j,none⟩=(vals l)[j]?):IntsAt w b (l.map (·.1)):=fun i hi => by
 rw [List.length_map] at hi
 rw [h i hi]; unfold vals
 simp [hi]
structure TInv (w:World) (fs:List GenL.Fd) (l:List Ex) (g k:Nat) (wr:World):Prop where
 le:k<=l.length
 err:errL (tyL (fts fs) (l.take k))=0
 row:∃ r:List Value,wr.ownsRow w.heap.size 3 1 (.slice (some ⟨g,0,none⟩) l.length l.length) l.length (vals (tyL (fts fs) (l.take k)) ++ r)
 below:Below w.heap.size w wr
theorem TInv.len {w:World} {fs:List GenL.Fd} {l:List Ex} {g k:Nat} {wr:World} (h:TInv w fs l g k wr):(vals (tyL (fts fs) (l.take k))).length=k:=by
 rw [vals_len,tyL_len,List.length_take]; have:=h.le; omega
theorem TInv.cell {w:World} {fs:List GenL.Fd} {l:List Ex} {g k:Nat} {wr:World} (h:TInv w fs l g k wr) (hk:k < l.length):(∃ v,wr.cell? ⟨g,k,none⟩=some v)/\wr.frozen? ⟨g,k,none⟩=false:=by
 obtain ⟨r,hr⟩:=h.row
 have hl:=hr.1
 exact ⟨⟨_,(hr.cellAt k (by omega)).trans (List.getElem?_eq_getElem (by omega))⟩,hr.frozenAt k⟩
theorem TInv.step {w:World} {fs:List GenL.Fd} {l:List Ex} {g k:Nat} {wr w1:World} (h:TInv w fs l g k wr) (hk:k < l.length) (hb:Below wr.heap.size wr w1) (h0:(Ex.ty (fts fs) l[k]).2=0) :
  TInv w fs l g (k + 1) (w1.setCell ⟨g,k,none⟩ (.int .i64 (Ex.ty (fts fs) l[k]).1)):=by
 refine ⟨hk,by rw [errL_at _ l k hk h.err,h0],?_,?_⟩
 ·obtain ⟨r,hr⟩:=h.row
  have hl:(vals (tyL (fts fs) (l.take k)) ++ r).length=l.length * 1:=hr.1
  rw [List.length_append,h.len] at hl
  have hr1:=hr.kept (row:=none) ⟨hb.os,hb.tape,hb.output,hb.size,fun k hk _ => hb.block k hk⟩ (.inr (by simp [Value.ownBlock]))
  refine ⟨r.drop 1,?_⟩
  have hs:=(hr1.stored k (.int .i64 (Ex.ty (fts fs) l[k]).1)).1
  rw [NmC.set_app _ _ 0 k (by have:=h.len; omega)] at hs
  rw [tyL_at _ l k hk,vals_snoc]
  match r,hl,hs with
  | [],hl,_ => simp at hl; omega
  | x :: r,_,hs => simpa using hs
 ·obtain ⟨r,hr⟩:=h.row
  have hg:w.heap.size<=g:=by
   rcases hr.2 with ⟨h2,_⟩ | ⟨g',cap',cur,h2,h3,_⟩
   ·simp at h2
   ·injection h2 with h2; injection h2 with h2; injection h2 with h2; omega
  exact (h.below.trans (hb.mono h.below.size)).setCell (p:=⟨g,k,none⟩) hg _
theorem TInv.ints {w:World} {fs:List GenL.Fd} {l:List Ex} {g:Nat} {wr:World} (h:TInv w fs l g l.length wr):IntsAt wr g ((tyL (fts fs) l).map (·.1)):=by
 obtain ⟨r,hr⟩:=h.row
 have hl:=h.len
 rw [List.take_length] at hr hl
 exact ints_vals wr g _ fun j hj => by
  rw [hr.cellAt j (by rw [tyL_len] at hj; omega),List.getElem?_append_left (by rw [vals_len]; exact hj)]
set_option maxRecDepth 100000 in
set_option maxHeartbeats 2000000 in
theorem typeOf_any (fs : List GenL.Fd) (FA : Option Addr) (fc m : Nat) (hm : fs.length ≤ 1000000000000) : ∀ (x : Ex) (d : Nd) (A : Option Addr) (n c : Nat) (w : World), x.okN → Is w x d A n → Flds w FA fs → Rules w m →
    Calls Tryz.prog 111 #[.agg #[.int .i64 d.op, .int .i64 d.k, .int .i64 d.n, .string d.s, .string d.nm, .slice A n c], .slice FA fs.length fc, .map (some m)] w fun e w' => e = .returned (.tuple #[.int .i64 (Ex.ty (fts fs) x).1, .int .i64 (Ex.ty (fts fs) x).2]) ∧ Below w.heap.size w w' := by
  refine Ex.ind fun d l ih => ?_
  intro d' A n c w hok his hf hru
  rw [is_mk] at his
  obtain ⟨rfl, rfl, ⟨hmx, _⟩, his⟩ := his
  obtain ⟨o1, o2, o3⟩ := okN_op hok
  have hokl := ((okN_mk d' l).1 hok).2
  rw [ty_mk]
  obtain ⟨R, hR⟩ : ∃ R, tyN (fts fs) d' (tyL (fts fs) l) = R := ⟨_, rfl⟩
  rw [hR]
  have HS := Lib.hid his
  have HI := Lib.hid ih
  have HF := Lib.hid hf
  have HRu := Lib.hid hru
  have HOk := Lib.hid hokl
  by_cases p1 : d'.op = 1
  · obtain rfl : R = (d'.k, 0) := by rw [← hR]; unfold tyN; rw [if_pos p1]
    clear hR his ih hf hru hokl hok o3
    have t1 : (d'.op == 1) = true := by rw [p1]; rfl
    go_enter Tryz.func111, Tryz.ntmps111
    go_wp2_with fail
    go_ret2
    exact ⟨rfl, b_new _ _⟩
  have t1 : (d'.op == 1) = false := beq_eq_false_iff_ne.2 p1
  by_cases p2 : d'.op = 2
  · obtain rfl : R = fieldT (fts fs) d'.nm := by rw [← hR]; unfold tyN; rw [if_neg p1, if_pos p2]
    obtain ⟨op, k, n, s, nm⟩ := d'
    obtain rfl : op = 2 := p2
    have hc := field_any nm fs FA fc (w.alloc (.cells #[.int .i64 2, .int .i64 k, .int .i64 n, .string s, .string nm, .slice A l.length c] 45)) (hf.below (b_new _ _)) hm
    have HC := Lib.hid hc
    clear hR his ih hf hru hokl hok o3 hc t1 p1
    go_enter Tryz.func111, Tryz.ntmps111
    go_wp2_with fail
    refine HC.out.mono ?_; rintro e w1 ⟨rfl, rfl⟩
    go_wp2_with fail
    go_ret2
    exact ⟨rfl, b_new _ _⟩
  have t2 : (d'.op == 2) = false := beq_eq_false_iff_ne.2 p2
  have o3' : 1 ≤ l.length ∧ l.length ≤ 3 := by
    rw [o3]; exact ⟨arity_pos (by omega), by unfold arity; repeat' split
                                             all_goals omega⟩
  obtain ⟨l1, l3⟩ := o3'
  have hgood : errL (tyL (fts fs) l) = 0 → R = applyR (ruleReq d'.op) (ruleRes d'.op) ((tyL (fts fs) l).map (·.1)) := fun h => by
    rw [← hR]; unfold tyN; rw [if_neg p1, if_neg p2, if_pos h]
  have hbad : ∀ e, errL (tyL (fts fs) l) = e → e ≠ 0 → R = (0, e) := fun e h he => by
    rw [← hR]; unfold tyN; rw [if_neg p1, if_neg p2, h, if_neg he]
  have hreq : (ruleReq d'.op).length = l.length := by rw [ruleReq_len (by omega) o2, o3]
  obtain ⟨i0, hi, hz0, hz1, hz2⟩ := info_parts infoI
  have HG := Lib.hid hgood
  have HB := Lib.hid hbad
  have HQ := Lib.hid hreq
  have HO := Lib.hid (And.intro (show 3 ≤ d'.op by omega) o2)
  have hI0 : ∀ W', W'.ownsRow w.heap.size 3 1 (.slice (some ⟨w.heap.size + 1, 0, none⟩) l.length l.length) l.length (madeCells (Value.int .i64 0).cells (l.length * 1)).toList → (w.alloc (.cells #[.int .i64 d'.op, .int .i64 d'.k, .int .i64 d'.n, .string d'.s, .string d'.nm, .slice A l.length c] 45)).grownBy W' none → TInv w fs l (w.heap.size + 1) 0 W' := fun W' h1 h2 =>
    ⟨Nat.zero_le _, by simp [tyL_nil, errL], ⟨_, by simpa [tyL_nil, vals] using h1⟩, (b_new _ _).grown h2 (by simp) (fun k e => by cases e)⟩
  have HI0 := Lib.hid hI0
  have hbx : ∀ W', (w.alloc (.cells #[.int .i64 d'.op, .int .i64 d'.k, .int .i64 d'.n, .string d'.s, .string d'.nm, .slice A l.length c] 45)).grownBy W' none → W'.cell? ⟨w.heap.size, 0, none⟩ = some (.int .i64 d'.op) ∧ W'.cell? ⟨w.heap.size, 5, none⟩ = some (.slice A l.length c) := fun W' h =>
    ⟨h.cell (by simp [go_sem]) (by simp), h.cell (by simp [go_sem]) (by simp)⟩
  have HBx := Lib.hid hbx
  clear hbx hR his ih hf hru hokl hok o3 hgood hbad hreq hI0 o1 o2 p1 p2
  go_enter Tryz.func111, Tryz.ntmps111
  go_wp2_with ((at_make; refine wpList_make_full _ rfl _ _ 77 rfl w.heap.size 3 i0 _ 1 Tryz.underlying77 hi hz0 hz1 .i64 .i64 _ _ l.length rfl rfl rfl rfl (by rw [hz2]; omega) (by unfold maxLen; omega) (by simp) ?_; intro w1 hown hgrow; obtain ⟨b0, b5⟩ := HBx.out w1 hgrow))
  rw [World.size_alloc] at hown
  have hI := HI0.out w1 hown hgrow
  have HBx2 := Lib.hid (HBx.out w1 hgrow)
  have hsz : w.heap.size + 1 < w1.heap.size := (hown.lt (w.heap.size + 1) rfl).2
  have sz1 := Lib.hid hsz
  have HIv := Lib.hid hI
  clear hI hown hgrow b0 b5 HI0 HBx
  go_loopw [9, 11, 12, 35] (fun _ _ _ i wr => ∃ (k : Nat), i = .int .i64 k ∧ TInv w fs l (w.heap.size + 1) k wr ∧ (wr.cell? ⟨w.heap.size, 0, none⟩ = some (.int .i64 d'.op)) ∧ w.heap.size + 1 < wr.heap.size) (fun _ _ _ i _ => l.length - (intOf i).toNat)
  case atStart => exact ⟨0, rfl, HIv.out, HBx2.out.1, sz1.out⟩
  case round =>
    obtain ⟨k, rfl, hV, hop, hws⟩ := hrel
    have hk := hV.le
    have HV := Lib.hid hV
    clear hV
    by_cases hlt : k < l.length
    · obtain ⟨a, d2, B, m2, c2, rfl, hat, hi⟩ := HS.out k hlt
      have hbw := HV.out.below
      obtain ⟨h0, h1, h2, h3, h4, h5⟩ := hat.below hbw
      have hc := HI.out _ (List.getElem_mem hlt) d2 B m2 c2 (wr.alloc (.cells #[.int .i64 d2.op, .int .i64 d2.k, .int .i64 d2.n, .string d2.s, .string d2.nm, .slice B m2 c2] 45)) (HOk.out _ (List.getElem_mem hlt)) ((hi.below hbw).alloc _) ((HF.out.below hbw).below (b_new _ _)) ((HRu.out.below hbw).below (b_new _ _))
      obtain ⟨t, ht⟩ : ∃ a, (Ex.ty (fts fs) l[k]).1 = a := ⟨_, rfl⟩
      obtain ⟨e0, he⟩ : ∃ a, (Ex.ty (fts fs) l[k]).2 = a := ⟨_, rfl⟩
      rw [ht, he] at hc
      have hst : ∀ W, Below wr.heap.size wr W → e0 = 0 → TInv w fs l (w.heap.size + 1) (k + 1) (W.setCell ⟨w.heap.size + 1, k, none⟩ (.int .i64 t)) := fun W hb h => by
        rw [← ht]; exact HV.out.step hlt hb (by rw [he]; exact h)
      have hbd : e0 ≠ 0 → R = (0, e0) := fun h => HB.out e0 (by rw [errL_stop _ l k hlt HV.out.err (by rw [he]; exact h), he]) h
      obtain ⟨⟨v0, hv0⟩, hfz⟩ := HV.out.cell hlt
      have HC := Lib.hid hc
      have HSt := Lib.hid hst
      have HBd := Lib.hid hbd
      have HBW := Lib.hid hbw
      clear hc hst hbd hi hat ht he hbw
      go_wp2_with fail
      refine HC.out.mono ?_; rintro e w2 ⟨rfl, hb2⟩
      have hb3 : Below wr.heap.size wr w2 := b_then hb2
      have g0 := (hb3.cell (p := ⟨w.heap.size + 1, k, none⟩) hws).trans hv0
      have gz := (hb3.frozen (p := ⟨w.heap.size + 1, k, none⟩) hws).trans hfz
      have gop := (hb3.cell (p := ⟨w.heap.size, 0, none⟩) (by show w.heap.size < _; omega)).trans hop
      have hws2 : w.heap.size + 1 < w2.heap.size := Nat.lt_of_lt_of_le hws hb3.size
      have hbE : Below w.heap.size w w2 := HBW.out.trans (hb3.mono HBW.out.size)
      have HBE := Lib.hid hbE
      have HI3 := Lib.hid (HSt.out w2 hb3)
      clear hb2 hb3 hbE h0 h1 h2 h3 h4 h5 hop hv0 hfz
      by_cases h0 : e0 = 0
      · subst h0
        go_wp2_with fail
        go_roundw
        case rel => exact ⟨k + 1, by go_num, (by first | exact HI3.out rfl | exact HI3.out trivial), (World.cell?_of_block (a := ⟨w.heap.size, 0, none⟩) (Below.heap_setCell w2 ⟨w.heap.size + 1, k, none⟩ _ w.heap.size (by simp))).trans gop, by rw [sz_set]; exact hws2⟩
        case measure => simp [intOf]; omega
      · have t3 : (e0 == 0) = false := beq_eq_false_iff_ne.2 h0
        obtain rfl := HBd.out h0
        go_wp2_with fail
        go_ret2
        exact ⟨rfl, HBE.out⟩
    · have hkl : k = l.length := by omega
      subst hkl
      have hbw := HV.out.below
      obtain ⟨rb, rc, hlook, hri⟩ := (HRu.out.below hbw).look HO.out.1 HO.out.2
      have herr := HV.out.err
      rw [List.take_length] at herr
      have hR := HG.out herr
      have hap := apply_any (ruleReq d'.op) ((tyL (fts fs) l).map (·.1)) (ruleRes d'.op) rb (w.heap.size + 1) rc l.length wr hri HV.out.ints (by rw [HQ.out, List.length_map, tyL_len]; exact Nat.le_refl _) (by rw [List.length_map, tyL_len]; exact l1) (by rw [List.length_map, tyL_len]; omega)
      rw [← hR, List.length_map, tyL_len, HQ.out] at hap
      rw [HQ.out] at hlook
      have HA := Lib.hid hap
      have HBW := Lib.hid hbw
      clear hap hri herr hR hbw
      go_wp2_with fail
      refine HA.out.mono ?_; rintro e w2 ⟨rfl, hb2⟩
      have hbE : Below w.heap.size w w2 := HBW.out.trans (hb2.mono HBW.out.size)
      have HBE := Lib.hid hbE
      clear hb2 hbE
      go_wp2_with fail
      go_ret2
      exact ⟨rfl, HBE.out⟩
theorem b_step {wc w w':World} (h:Below wc.heap.size wc w) (h':Below w.heap.size w w'):Below wc.heap.size wc w':=h.trans (h'.mono h.size)
set_option maxRecDepth 100000 in
set_option maxHeartbeats 2000000 in
theorem of_any (x:Ex) (fs:List GenL.Fd) (FA:Option Addr) (fc:Nat) (d:Nd) (A:Option Addr) (n c:Nat) (w:World) (hm:fs.length<=1000000000000) (his:Is w x d A n) (hf:Flds w FA fs) (hT:Tab w) :
  Calls Tryz.prog 84 #[.agg #[.int .i64 d.op,.int .i64 d.k,.int .i64 d.n,.string d.s,.string d.nm,.slice A n c],.slice FA fs.length fc] w fun e w' => e=.returned (.tuple #[.int .i64 (ofT (fts fs) x).1,.int .i64 (ofT (fts fs) x).2])/\Below w.heap.size w w':=by
 obtain ⟨R,hR⟩:∃ R,ofT (fts fs) x=R:=⟨_,rfl⟩
 obtain ⟨e0,he0⟩:∃ e,x.checkE=e:=⟨_,rfl⟩
 rw [hR]
 have hck:=fun W (hb:Below w.heap.size w W) => ExC.check_any x d A n c W (his.below hb) (hT.below hb)
 rw [he0] at hck
 have hty:=fun m W (hb:Below w.heap.size w W) (h0:e0=0) (hru:Rules W m) => typeOf_any fs FA fc m hm x d A n c W (checkE_zero (by rw [he0,h0])).2.2 (his.below hb) (hf.below hb) hru
 have hgood:e0=0->Ex.ty (fts fs) x=R:=fun h => by rw [← hR]; unfold ofT; rw [if_pos (by rw [he0,h])]
 have hbad:e0 ≠ 0->R=(0,e0):=fun h => by rw [← hR]; unfold ofT; rw [he0,if_neg h]
 have HCk:=Lib.hid hck
 have HTy:=Lib.hid hty
 have HG:=Lib.hid hgood
 have HB:=Lib.hid hbad
 clear hck hty hgood hbad hR he0 his hf hT
 go_enter Tryz.func84,Tryz.ntmps84
 go_wp2_with fail
 refine (HCk.out _ (b_new w _)).mono ?_; rintro e w1 ⟨rfl,hb1⟩
 have hbx:=(ExV.Box.new w d A n c).below hb1
 have hb1w:Below w.heap.size w w1:=b_then hb1
 have HBW:=Lib.hid hb1w
 have hcl:∀ W,Below w1.heap.size w1 W->W.cell? ⟨w.heap.size,0,none⟩=some (.int .i64 d.op)/\W.cell? ⟨w.heap.size,1,none⟩=some (.int .i64 d.k)/\W.cell? ⟨w.heap.size,2,none⟩=some (.int .i64 d.n)/\W.cell? ⟨w.heap.size,3,none⟩=some (.string d.s)/\W.cell? ⟨w.heap.size,4,none⟩=some (.string d.nm)/\W.cell? ⟨w.heap.size,5,none⟩=some (.slice A n c):=fun W hb => (hbx.below hb).cells
 have HCells:=Lib.hid hcl
 clear hb1 hbx hb1w hcl
 by_cases h0:e0=0
 ·subst h0
  have hg:=HG.out (by first | rfl | trivial)
  have hty:=fun m W (hb:Below w1.heap.size w1 W) (hru:Rules W m) => HTy.out m W (HBW.out.trans (hb.mono HBW.out.size)) rfl hru
  rw [hg] at hty
  have HT2:=Lib.hid hty
  obtain ⟨c0,c1,c2,c3,c4,c5⟩:=HCells.out w1 (Below.refl _ _)
  have hbl:=Below.refl w1.heap.size w1
  clear hty hg HG HB HTy HCk
  go_wp2_with fail
  go_region_held3 (fun W => W.cell? ⟨w.heap.size,0,none⟩=some (.int .i64 d.op)/\W.cell? ⟨w.heap.size,1,none⟩=some (.int .i64 d.k)/\W.cell? ⟨w.heap.size,2,none⟩=some (.int .i64 d.n)/\W.cell? ⟨w.heap.size,3,none⟩=some (.string d.s)/\W.cell? ⟨w.heap.size,4,none⟩=some (.string d.nm)/\W.cell? ⟨w.heap.size,5,none⟩=some (.slice A n c)) (first | (with_reducible exact HCells.out _ hbl) | (with_reducible exact HCells.out _ (b_drew hbl)))
   (first | (go_at_call 112; refine (rules_any _).mono ?_; rintro e wn ⟨⟨m,rfl,hru⟩,hbn⟩; have hbl:Below w1.heap.size w1 wn:=(by (first | (exact b_step hbl hbn) | (exact b_step (b_drew hbl) hbn)))) | (go_at_call 111; (with_reducible refine (HT2.out _ _ ?_ ?_).mono ?_); (first | exact hbl | exact b_drew hbl); (first | exact hru | exact hru.below (b_drew (Below.refl _ _))); rintro e wk ⟨rfl,hbk⟩; have hbl:Below w1.heap.size w1 wk:=(by (first | (exact b_step hbl hbk) | (exact b_step (b_drew hbl) hbk)))))
  go_wp2_with fail
  go_ret2
  exact ⟨rfl,HBW.out.trans (hbl.mono HBW.out.size)⟩
 ·have t1:(e0 == 0)=false:=beq_eq_false_iff_ne.2 h0
  obtain rfl:=HB.out h0
  obtain ⟨c0,c1,c2,c3,c4,c5⟩:=HCells.out w1 (Below.refl _ _)
  go_wp2_with fail
  go_ret2
  exact ⟨rfl,HBW.out⟩
set_option maxRecDepth 100000 in
set_option maxHeartbeats 2000000 in
theorem fits_any (x:Ex) (fs:List GenL.Fd) (FA:Option Addr) (fc:Nat) (want:Int) (d:Nd) (A:Option Addr) (n c:Nat) (w:World) (hm:fs.length<=1000000000000) (his:Is w x d A n) (hf:Flds w FA fs) (hT:Tab w) :
  Calls Tryz.prog 52 #[.agg #[.int .i64 d.op,.int .i64 d.k,.int .i64 d.n,.string d.s,.string d.nm,.slice A n c],.slice FA fs.length fc,.int .i64 want] w fun e w' => e=.returned (.int .i64 (fitsT (fts fs) x want))/\Below w.heap.size w w':=by
 obtain ⟨t,e0,hR⟩:∃ t e,ofT (fts fs) x=(t,e):=⟨_,_,rfl⟩
 have hres:fitsT (fts fs) x want=if e0=0 then (if t=want then 0 else 9) else e0:=by unfold fitsT; rw [hR]
 have hc:=fun W (hb:Below w.heap.size w W) => of_any x fs FA fc d A n c W hm (his.below hb) (hf.below hb) (hT.below hb)
 rw [hR] at hc
 rw [hres]
 have HC:=Lib.hid hc
 clear hc hres hR his hf hT
 go_enter Tryz.func52,Tryz.ntmps52
 go_wp2_with fail
 refine (HC.out _ (b_new w _)).mono ?_; rintro e w1 ⟨rfl,hb1⟩
 have HBW:=Lib.hid (b_then hb1)
 clear hb1
 by_cases h0:e0=0
 ·subst h0
  by_cases ht:t=want
  ·subst ht
   go_wp2_with fail
   go_ret
   exact ⟨by simp,HBW.out⟩
  ·have t1:(t == want)=false:=beq_eq_false_iff_ne.2 ht
   go_wp2_with fail
   go_ret
   exact ⟨by simp,HBW.out⟩
 ·have t1:(e0 == 0)=false:=beq_eq_false_iff_ne.2 h0
  go_wp2_with fail
  go_ret
  exact ⟨rfl,HBW.out⟩
end TyO
end Go.Proofs.YtjhhmdmmllblhaaGreatDoor
