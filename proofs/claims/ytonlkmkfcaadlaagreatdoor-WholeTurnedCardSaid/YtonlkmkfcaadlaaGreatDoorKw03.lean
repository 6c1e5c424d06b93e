/- Maths NotTab LexBytes: what these laws name of them. -/
import Derived.LaidLaws
import Derived.ChangeArms
import Derived.Lib.LaidTab
import Derived.ChangeOld
import Derived.WideShapes
import Derived.BigQuiet
import Derived.Deep.QuietTactic
import Derived.Test.YtonlkmkfcaadlaaGreatDoorKw01
namespace Go.Proofs.YtonlkmkfcaadlaaGreatDoor
set_option linter.unusedVariables false
namespace TyM
open ExM
def fieldT:List (ByteArray × Int)->ByteArray->Int × Int
 | [],_ => (0,5)
 | f :: l,s => if f.1=s then (f.2,0) else fieldT l s
def ruleReq (op:Int):List Int :=
 if op=3 then [1] else if op=4 then [2] else if op=18 then [3] else if op=17 then [2,0,0] else if op=10 then [3,3]
 else if op=15 ∨ op=16 then [2,2] else if 11<=op/\op<=14 then [0,0] else [1,1]
def ruleRes (op:Int):Int:=if op=17 then 0 else if op=10 then 3 else if op=4 ∨ (11<=op/\op<=16) then 2 else 1
def settl (k last:Int):Int:=if k=0 then last else k
def lastT (ts:List Int):Int:=ts.getD (ts.length - 1) 0
def fitsR (req ts:List Int):Prop:=∀ i,i < req.length->ts.getD i 0=settl (req.getD i 0) (lastT ts)
instance (req ts:List Int):Decidable (fitsR req ts):=by unfold fitsR; exact inferInstance
def applyR (req:List Int) (res:Int) (ts:List Int):Int × Int:=if fitsR req ts then (settl res (lastT ts),0) else (0,9)
def errL:List (Int × Int)->Int
 | [] => 0
 | p :: r => if p.2=0 then errL r else p.2
def tyN (fs:List (ByteArray × Int)) (d:Nd) (ps:List (Int × Int)):Int × Int :=
 if d.op=1 then (d.k,0) else if d.op=2 then fieldT fs d.nm else if errL ps=0 then applyR (ruleReq d.op) (ruleRes d.op) (ps.map (·.1)) else (0,errL ps)
mutual
def Ex.ty (fs:List (ByteArray × Int)):Ex->Int × Int | .mk d l => tyN fs d (tyL fs l)
def tyL (fs:List (ByteArray × Int)):List Ex->List (Int × Int) | [] => [] | x :: l => Ex.ty fs x :: tyL fs l
end
theorem ty_mk (fs:List (ByteArray × Int)) (d:Nd) (l:List Ex):Ex.ty fs (.mk d l)=tyN fs d (tyL fs l):=by simp [Ex.ty]
theorem tyL_nil (fs:List (ByteArray × Int)):tyL fs []=[]:=by simp [tyL]
theorem tyL_cons (fs:List (ByteArray × Int)) (x:Ex) (l:List Ex):tyL fs (x :: l)=Ex.ty fs x :: tyL fs l:=by simp [tyL]
theorem tyL_map (fs:List (ByteArray × Int)) (l:List Ex):tyL fs l=l.map (Ex.ty fs):=by
 induction l with
 | nil => rw [tyL_nil]; rfl
 | cons x l ih => rw [tyL_cons,ih]; rfl
theorem tyL_len (fs:List (ByteArray × Int)) (l:List Ex):(tyL fs l).length=l.length:=by rw [tyL_map,List.length_map]
theorem errL_append (l m:List (Int × Int)):errL (l ++ m)=if errL l=0 then errL m else errL l:=by
 induction l with
 | nil => simp [errL]
 | cons p l ih =>
  rw [List.cons_append,errL,errL,ih]
  by_cases h:p.2=0
  ·rw [if_pos h,if_pos h]
  ·rw [if_neg h,if_neg h,if_neg h]
theorem errL_one (p:Int × Int):errL [p]=p.2:=by
 rw [errL]; split
 ·rename_i h; rw [h]; rfl
 ·rfl
theorem tyL_at (fs:List (ByteArray × Int)) (l:List Ex) (k:Nat) (h:k < l.length):tyL fs (l.take (k + 1))=tyL fs (l.take k) ++ [Ex.ty fs l[k]]:=by
 rw [take_at l k h,tyL_map,tyL_map,List.map_append]; rfl
theorem errL_at (fs:List (ByteArray × Int)) (l:List Ex) (k:Nat) (h:k < l.length) (h0:errL (tyL fs (l.take k))=0):errL (tyL fs (l.take (k + 1)))=(Ex.ty fs l[k]).2:=by
 rw [tyL_at fs l k h,errL_append,if_pos h0,errL_one]
theorem errL_stop (fs:List (ByteArray × Int)) (l:List Ex) (k:Nat) (h:k < l.length) (h0:errL (tyL fs (l.take k))=0) (h1:(Ex.ty fs l[k]).2 ≠ 0):errL (tyL fs l)=(Ex.ty fs l[k]).2:=by
 have e:l=l.take (k + 1) ++ l.drop (k + 1):=(List.take_append_drop _ _).symm
 have e2:tyL fs l=tyL fs (l.take (k + 1)) ++ tyL fs (l.drop (k + 1)):=by
  rw [tyL_map,tyL_map,tyL_map,← List.map_append,List.take_append_drop]
 have e3:=errL_at fs l k h h0
 rw [e2,errL_append,if_neg (by rw [e3]; exact h1),e3]
def ofT (fs:List (ByteArray × Int)) (x:Ex):Int × Int:=if x.checkE=0 then Ex.ty fs x else (0,x.checkE)
def fitsT (fs:List (ByteArray × Int)) (x:Ex) (want:Int):Int:=if (ofT fs x).2=0 then (if (ofT fs x).1=want then 0 else 9) else (ofT fs x).2
theorem fieldT_skip (fs:List (ByteArray × Int)) (s:ByteArray) (k:Nat) (h:∀ j (hj:j < fs.length),j < k->fs[j].1 ≠ s):fieldT fs s=fieldT (fs.drop k) s:=by
 induction k generalizing fs with
 | zero => rw [List.drop_zero]
 | succ k ih =>
  match fs,h with
  | [],_ => rfl
  | f :: l,h =>
   rw [fieldT,if_neg (show ¬ f.1=s from h 0 (by simp) (by omega)),List.drop_succ_cons]
   exact ih l fun j hj hjk => h (j + 1) (by simpa using hj) (by omega)
theorem fieldT_hit (fs:List (ByteArray × Int)) (s:ByteArray) (k:Nat) (hk:k < fs.length) (h:∀ j (hj:j < fs.length),j < k->fs[j].1 ≠ s) (he:fs[k].1=s):fieldT fs s=(fs[k].2,0):=by
 rw [fieldT_skip fs s k h,List.drop_eq_getElem_cons hk,fieldT,if_pos he]
theorem fieldT_none (fs:List (ByteArray × Int)) (s:ByteArray) (h:∀ j (hj:j < fs.length),fs[j].1 ≠ s):fieldT fs s=(0,5):=by
 rw [fieldT_skip fs s fs.length (fun j hj _ => h j hj),List.drop_length]; rfl
theorem ruleReq_len {op:Int} (h1:3<=op) (h2:op<=18):(ruleReq op).length=arity op:=by
 have:op=3 ∨ op=4 ∨ op=5 ∨ op=6 ∨ op=7 ∨ op=8 ∨ op=9 ∨ op=10 ∨ op=11 ∨ op=12 ∨ op=13 ∨ op=14 ∨ op=15 ∨ op=16 ∨ op=17 ∨ op=18:=by omega
 rcases this with h | h | h | h | h | h | h | h | h | h | h | h | h | h | h | h <;> subst h <;> rfl
theorem arity_pos {op:Int} (h1:3<=op):1<=arity op:=by
 unfold arity
 rw [if_neg (by omega)]
 repeat' split
 all_goals omega
theorem okN_op {d:Nd} {l:List Ex} (h:(Ex.mk d l).okN):1<=d.op/\d.op<=18/\l.length=arity d.op:=by
 have:=((okN_mk d l).1 h).1
 unfold nodeE at this
 by_cases h1:d.op < 1 ∨ 18 < d.op
 ·rw [if_pos h1] at this; exact absurd this (by decide)
 ·rw [if_neg h1] at this
  by_cases h2:l.length=arity d.op/\vOk d=true/\nmOk d=true
  ·exact ⟨by omega,by omega,h2.1⟩
  ·rw [if_neg h2] at this; exact absurd this (by decide)
end TyM
namespace NmM
open ExM
def refsN (l:List (Nd × Nat)):List ByteArray:=(l.filter fun y => decide (y.1.op=2)).map fun y => y.1.nm
def Ex.refs (x:Ex):List ByteArray:=refsN x.pre
def refsL (l:List Ex):List ByteArray:=refsN (preL l)
theorem refsN_append (l m:List (Nd × Nat)):refsN (l ++ m)=refsN l ++ refsN m:=by unfold refsN; rw [List.filter_append,List.map_append]
theorem refsL_nil:refsL []=[]:=by unfold refsL; rw [preL_nil]; rfl
theorem refsL_cons (x:Ex) (l:List Ex):refsL (x :: l)=Ex.refs x ++ refsL l:=by unfold refsL Ex.refs; rw [preL_cons,refsN_append]
theorem refsL_append (l m:List Ex):refsL (l ++ m)=refsL l ++ refsL m:=by unfold refsL; rw [preL_append,refsN_append]
theorem refsL_at (l:List Ex) (i:Nat) (h:i < l.length):refsL (l.take (i + 1))=refsL (l.take i) ++ Ex.refs l[i]:=by unfold refsL Ex.refs; rw [preL_at l i h,refsN_append]
theorem refs_mk_pos (d:Nd) (l:List Ex) (h:d.op=2):Ex.refs (.mk d l)=d.nm :: refsL l:=by
 unfold Ex.refs refsL; rw [pre_mk]
 show refsN ((d,l.length) :: preL l)=_
 unfold refsN; rw [List.filter_cons_of_pos (by simp [h])]; rfl
theorem refs_mk_neg (d:Nd) (l:List Ex) (h:d.op ≠ 2):Ex.refs (.mk d l)=refsL l:=by
 unfold Ex.refs refsL; rw [pre_mk]
 show refsN ((d,l.length) :: preL l)=_
 unfold refsN; rw [List.filter_cons_of_neg (by simp [h])]
theorem refs_mk (d:Nd) (l:List Ex):Ex.refs (.mk d l)=(if d.op=2 then [d.nm] else []) ++ refsL l:=by
 by_cases h:d.op=2
 ·rw [refs_mk_pos d l h,if_pos h]; rfl
 ·rw [refs_mk_neg d l h,if_neg h]; rfl
theorem refsN_len (l:List (Nd × Nat)):(refsN l).length<=l.length:=by
 unfold refsN; rw [List.length_map]; exact List.length_filter_le _ _
theorem refs_len (x:Ex):(Ex.refs x).length<=x.nodes:=by
 have:=refsN_len x.pre; rw [pre_len] at this; exact this
theorem refsL_take (l:List Ex) (i:Nat):(refsL (l.take i)).length<=(refsL l).length:=by
 have h:=refsL_append (l.take i) (l.drop i)
 rw [List.take_append_drop] at h
 rw [h,List.length_append]; omega
theorem refs_prefix (l:List Ex) (k:Nat) (hk:k < l.length) {q:List ByteArray} (h:q <+: Ex.refs l[k]):refsL (l.take k) ++ q <+: refsL l:=by
 have e:refsL l=refsL (l.take (k + 1)) ++ refsL (l.drop (k + 1)):=by rw [← refsL_append,List.take_append_drop]
 rw [e,refsL_at l k hk]
 obtain ⟨r,hr⟩:=h
 exact ⟨r ++ refsL (l.drop (k + 1)),by rw [← hr]; simp [List.append_assoc]⟩
theorem mem_refsL {l:List Ex} {x:Ex} {n:ByteArray} (hx:x ∈ l) (hn:n ∈ Ex.refs x):n ∈ refsL l:=by
 induction l with
 | nil => simp at hx
 | cons y l ih =>
  rw [refsL_cons,List.mem_append]
  rcases List.mem_cons.1 hx with e | hx
  ·subst e; exact .inl hn
  ·exact .inr (ih hx)
def hasB (l:List ByteArray) (s:ByteArray):Bool:=l.any fun t => decide (t=s)
theorem hasB_nil (s:ByteArray):hasB [] s=false:=rfl
theorem hasB_append (l m:List ByteArray) (s:ByteArray):hasB (l ++ m) s=(hasB l s || hasB m s):=by unfold hasB; rw [List.any_append]
theorem hasB_cons (t:ByteArray) (l:List ByteArray) (s:ByteArray):hasB (t :: l) s=(decide (t=s) || hasB l s):=by unfold hasB; rw [List.any_cons]
theorem hasB_true (l:List ByteArray) (s:ByteArray):hasB l s=true ↔ s ∈ l:=by
 unfold hasB; rw [List.any_eq_true]
 constructor
 ·rintro ⟨t,ht,e⟩; rw [decide_eq_true_eq] at e; subst e; exact ht
 ·intro h; exact ⟨s,h,by simp⟩
abbrev Bs:=List UInt8
def place (s:Bs):List Bs->List Bs
 | [] => [s]
 | t :: r => if s < t then s :: t :: r else t :: place s r
def ins (l:List Bs) (s:Bs):List Bs:=if s ∈ l then l else place s l
def rise (l:List Bs):List Bs:=l.foldl ins []
theorem mem_place (s:Bs) (l:List Bs) (x:Bs):x ∈ place s l ↔ x=s ∨ x ∈ l:=by
 induction l with
 | nil => simp [place]
 | cons t r ih =>
  unfold place
  by_cases h:s < t
  ·rw [if_pos h]; simp
  ·rw [if_neg h,List.mem_cons,ih,List.mem_cons]
   constructor
   ·rintro (h | h | h) <;> simp [h]
   ·rintro (h | h | h) <;> simp [h]
theorem mem_ins (l:List Bs) (s x:Bs):x ∈ ins l s ↔ x=s ∨ x ∈ l:=by
 unfold ins
 by_cases h:s ∈ l
 ·rw [if_pos h]
  constructor
  ·exact .inr
  ·rintro (rfl | h2)
   ·exact h
   ·exact h2
 ·rw [if_neg h,mem_place]
theorem lt_or {a b:Bs} (h:¬ a < b) (hne:a ≠ b):b < a:=by
 have h1:b<=a:=List.not_lt.1 h
 by_cases g:b < a
 ·exact g
 ·exact absurd (List.le_antisymm (List.not_lt.1 g) h1) hne
theorem sorted_place (s:Bs) (l:List Bs) (hs:s ∉ l) (h:l.Pairwise (· < ·)):(place s l).Pairwise (· < ·):=by
 induction l with
 | nil => simp [place]
 | cons t r ih =>
  obtain ⟨h1,h2⟩:=List.pairwise_cons.1 h
  have hne:s ≠ t:=fun e => hs (by simp [e])
  unfold place
  by_cases hlt:s < t
  ·rw [if_pos hlt]
   refine List.pairwise_cons.2 ⟨fun x hx => ?_,h⟩
   rcases List.mem_cons.1 hx with e | hx
   ·rw [e]; exact hlt
   ·exact List.lt_trans hlt (h1 x hx)
  ·rw [if_neg hlt]
   refine List.pairwise_cons.2 ⟨fun x hx => ?_,ih (fun hx => hs (by simp [hx])) h2⟩
   rcases (mem_place s r x).1 hx with e | hx
   ·rw [e]; exact lt_or hlt hne
   ·exact h1 x hx
theorem sorted_ins (l:List Bs) (s:Bs) (h:l.Pairwise (· < ·)):(ins l s).Pairwise (· < ·):=by
 unfold ins
 by_cases hs:s ∈ l
 ·rw [if_pos hs]; exact h
 ·rw [if_neg hs]; exact sorted_place s l hs h
theorem place_len (s:Bs) (l:List Bs):(place s l).length=l.length + 1:=by
 induction l with
 | nil => rfl
 | cons t r ih =>
  unfold place
  by_cases h:s < t
  ·rw [if_pos h]; simp
  ·rw [if_neg h,List.length_cons,ih,List.length_cons]
theorem ins_len (l:List Bs) (s:Bs):(ins l s).length<=l.length + 1:=by
 unfold ins
 by_cases hs:s ∈ l
 ·rw [if_pos hs]; omega
 ·rw [if_neg hs,place_len]; omega
theorem rise_all (l:List Bs):(rise l).Pairwise (· < ·)/\(∀ x,x ∈ rise l ↔ x ∈ l)/\(rise l).length<=l.length:=by
 suffices h:∀ (l acc:List Bs),acc.Pairwise (· < ·)->(l.foldl ins acc).Pairwise (· < ·)/\(∀ x,x ∈ l.foldl ins acc ↔ x ∈ acc ∨ x ∈ l)/\(l.foldl ins acc).length<=acc.length + l.length by
  obtain ⟨h1,h2,h3⟩:=h l [] List.Pairwise.nil
  exact ⟨h1,fun x => by rw [rise,h2]; simp,by rw [rise]; simpa using h3⟩
 intro l
 induction l with
 | nil => intro acc h; simp [h]
 | cons s r ih =>
  intro acc h
  obtain ⟨h1,h2,h3⟩:=ih (ins acc s) (sorted_ins acc s h)
  refine ⟨h1,fun x => ?_,?_⟩
  ·rw [List.foldl_cons,h2,mem_ins]
   simp only [List.mem_cons]
   constructor
   ·rintro ((h | h) | h) <;> simp [h]
   ·rintro (h | h | h) <;> simp [h]
  ·rw [List.foldl_cons,List.length_cons]; have:=ins_len acc s; omega
theorem rise_sorted (l:List Bs):(rise l).Pairwise (· < ·):=(rise_all l).1
theorem rise_mem (l:List Bs) (x:Bs):x ∈ rise l ↔ x ∈ l:=(rise_all l).2.1 x
theorem rise_len (l:List Bs):(rise l).length<=l.length:=(rise_all l).2.2
theorem rise_nodup (l:List Bs):(rise l).Nodup:=(rise_sorted l).imp fun h e => by subst e; exact List.lt_irrefl _ h
theorem rise_unique (l ss:List Bs) (hp:ss.Nodup) (hm:∀ x,x ∈ ss ↔ x ∈ l):ss.mergeSort (fun x y => decide (x<=y))=rise l:=by
 have h1:ss.Perm (rise l):=(List.perm_ext_iff_of_nodup hp (rise_nodup l)).2 fun x => by rw [hm,rise_mem]
 have tr:∀ a b c:Bs,(fun x y:Bs => decide (x<=y)) a b=true->(fun x y:Bs => decide (x<=y)) b c=true->(fun x y:Bs => decide (x<=y)) a c=true:=fun a b c h1 h2 => by simp only [decide_eq_true_eq] at *; exact List.le_trans h1 h2
 have tot:∀ a b:Bs,((fun x y:Bs => decide (x<=y)) a b || (fun x y:Bs => decide (x<=y)) b a)=true:=fun a b => by simp only [Bool.or_eq_true,decide_eq_true_eq]; exact List.le_total a b
 refine List.Perm.eq_of_pairwise (le:=fun a b => a<=b) (fun a b _ _ h1 h2 => List.le_antisymm h1 h2) ((List.pairwise_mergeSort tr tot ss).imp fun h => by simpa using h) ((rise_sorted l).imp fun h => List.le_of_lt h) ((List.mergeSort_perm ss _).trans h1)
mutual
def Ex.put (n:ByteArray) (y:Ex):Ex->Ex | .mk d l => if d.op=2/\d.nm=n then y else .mk d (putL n y l)
def putL (n:ByteArray) (y:Ex):List Ex->List Ex | [] => [] | x :: l => Ex.put n y x :: putL n y l
end
end NmM
namespace EvM
open Go.Lib
open NumM ValM ExM NmM TyM StrM
abbrev e0:ByteArray:=⟨#[]⟩
structure Vl where
 k:Int
 n:Int
 s:ByteArray
def Vl.ok (v:Vl):Prop:=valE v.k v.n v.s.data.toList=0
def flt (e:Int):Vl:=⟨5,e,e0⟩
def bitI (b:Bool):Int:=if b then 1 else 0
def tru (b:Bool):Vl:=⟨2,bitI b,e0⟩
def zeroV:Vl:=⟨0,0,e0⟩
theorem e0_of {s:ByteArray} (h:s.data.toList=[]):s=e0:=by
 have:s.size=0:=by rw [← len_size,h]; rfl
 exact ByteArray.size_eq_zero_iff.1 this
theorem ok_cases {v:Vl} (h:v.ok):(v.k=1/\okN v.n=true/\v.s=e0) ∨ (v.k=2/\(v.n=0 ∨ v.n=1)/\v.s=e0) ∨ (v.k=3/\v.n=0/\v.s.size<=40/\cleanL v.s.data.toList=true) ∨ (v.k=4/\v.n=0/\v.s=e0) ∨ (v.k=5/\1<=v.n/\v.n<=15/\v.s=e0):=by
 unfold Vl.ok valE at h
 by_cases g:numE v.k v.n=0
 ·rw [if_pos g] at h
  have hs:v.k ≠ 3->v.s=e0:=fun hk => by
   rw [strE_other hk] at h
   by_cases e:v.s.data.toList=[]
   ·exact e0_of e
   ·rw [if_neg e] at h; omega
  unfold numE at g
  by_cases k1:v.k=1
  ·rw [if_pos k1] at g
   by_cases g2:okN v.n=true
   ·exact .inl ⟨k1,g2,hs (by omega)⟩
   ·rw [if_neg g2] at g; omega
  rw [if_neg k1] at g
  by_cases k2:v.k=2
  ·rw [if_pos k2] at g
   by_cases g2:0<=v.n/\v.n<=1
   ·exact .inr (.inl ⟨k2,by omega,hs (by omega)⟩)
   ·rw [if_neg g2] at g; omega
  rw [if_neg k2] at g
  by_cases k3:v.k=3 ∨ v.k=4
  ·rw [if_pos k3] at g
   by_cases g2:v.n=0
   ·rcases k3 with k3 | k3
    ·rw [k3] at h
     unfold strE at h
     rw [if_pos rfl] at h
     by_cases h4:40 < v.s.data.toList.length
     ·rw [if_pos h4] at h; omega
     ·rw [if_neg h4] at h
      by_cases h5:cleanL v.s.data.toList=true
      ·exact .inr (.inr (.inl ⟨k3,g2,by rw [len_size] at h4; omega,h5⟩))
      ·rw [if_neg h5] at h; omega
    ·exact .inr (.inr (.inr (.inl ⟨k3,g2,hs (by omega)⟩)))
   ·rw [if_neg g2] at g; omega
  rw [if_neg k3] at g
  by_cases k5:v.k=5
  ·rw [if_pos k5] at g
   by_cases g2:1<=v.n/\v.n<=15
   ·exact .inr (.inr (.inr (.inr ⟨k5,g2.1,g2.2,hs (by omega)⟩)))
   ·rw [if_neg g2] at g; omega
  ·rw [if_neg k5] at g; omega
 ·rw [if_neg g] at h; omega
theorem ok_kind {v:Vl} (h:v.ok):1<=v.k/\v.k<=5:=by
 rcases ok_cases h with h | h | h | h | h <;> omega
theorem ok_int {n:Int} (h:okN n=true):(⟨1,n,e0⟩:Vl).ok:=by
 unfold Vl.ok valE; rw [show numE 1 n=0 by unfold numE; rw [if_pos rfl,if_pos h]]; rfl
theorem ok_flt {e:Int} (h1:1<=e) (h2:e<=15):(flt e).ok:=by
 unfold Vl.ok valE flt; rw [show numE 5 e=0 by unfold numE; rw [if_neg (by decide),if_neg (by decide),if_neg (by decide),if_pos rfl,if_pos ⟨h1,h2⟩]]; rfl
theorem ok_tru (b:Bool):(tru b).ok:=by cases b <;> rfl
theorem ok_text {s:ByteArray} (h1:s.size<=40) (h2:cleanL s.data.toList=true):(⟨3,0,s⟩:Vl).ok:=by
 unfold Vl.ok valE; rw [show numE 3 0=0 by rfl]; exact strE_clean (by rw [len_size]; exact h1) h2
theorem ok_known {v:Vl} (h:v.ok) (h1:v.k ≠ 4) (h2:v.k ≠ 5):knownB v.k v.n v.s.data.toList=true:=by
 have hk:=ok_kind h
 unfold knownB isT
 unfold Vl.ok at h
 rw [h]
 have:v.k=1 ∨ v.k=2 ∨ v.k=3:=by omega
 rcases this with h | h | h <;> rw [h] <;> rfl
def factV:List (ByteArray × Vl)->ByteArray->Vl
 | [],_ => flt 5
 | f :: l,s => if f.1=s then f.2 else factV l s
theorem factV_skip (fs:List (ByteArray × Vl)) (s:ByteArray) (k:Nat) (h:∀ j (hj:j < fs.length),j < k->fs[j].1 ≠ s):factV fs s=factV (fs.drop k) s:=by
 induction k generalizing fs with
 | zero => rw [List.drop_zero]
 | succ k ih =>
  match fs,h with
  | [],_ => rfl
  | f :: l,h =>
   rw [factV,if_neg (show ¬ f.1=s from h 0 (by simp) (by omega)),List.drop_succ_cons]
   exact ih l fun j hj hjk => h (j + 1) (by simpa using hj) (by omega)
theorem factV_ok {fs:List (ByteArray × Vl)} (h:∀ f ∈ fs,f.2.ok) (s:ByteArray):(factV fs s).ok:=by
 induction fs with
 | nil => exact ok_flt (by decide) (by decide)
 | cons f l ih =>
  rw [factV]
  by_cases e:f.1=s
  ·rw [if_pos e]; exact h f (by simp)
  ·rw [if_neg e]; exact ih fun g hg => h g (by simp [hg])
def condV (v:Vl):Vl:=if v.k=1 ∨ v.k=3 then flt 9 else v
def arN (op a b:Int):Int × Int :=
 if op=8 then (binV a b (a + b),binE a b (a + b)) else if op=5 then (binV a b (a * b),binE a b (a * b)) else if op=6 then (quoV a b (a.fdiv b),quoE a b (a.fdiv b))
 else if op=7 then (quoV a b (a.fmod b),quoE a b (a.fmod b)) else (binV a b (a - b),binE a b (a - b))
def arR (op:Int) (a b:Vl):Vl × Int:=if a.k=1/\b.k=1 then (if (arN op a.n b.n).2=0 then (⟨1,(arN op a.n b.n).1,e0⟩,0) else (zeroV,(arN op a.n b.n).2)) else (zeroV,9)
def notR (v:Vl):Vl × Int:=if v.k=2 then (tru (decide (v.n=0) && decide (v.s=e0)),0) else (zeroV,9)
def joinR (a b:Vl):Vl × Int:=if a.k=3/\b.k=3 then (if 40 < a.s.size + b.s.size then (zeroV,1) else (⟨3,0,a.s ++ b.s⟩,0)) else (zeroV,9)
def lenR (v:Vl):Vl × Int:=if v.k=3 then (⟨1,(v.s.size:Int),e0⟩,0) else (zeroV,9)
def ordVl (a b:Vl):Int:=if a.k=3 then compareBytes a.s.data.toList b.s.data.toList else compareInt a.n b.n
def cmpB (op o:Int):Bool:=if op=11 then decide (o < 0) else if op=12 then decide (o<=0) else if op=13 then (o == 0) else (o != 0)
def cmpR (op:Int) (a b:Vl):Vl × Int:=if a.k=b.k then (tru (cmpB op (ordVl a b)),0) else (zeroV,9)
def compR (op:Int) (a b:Vl):Vl × Int :=
 if op=3 then arR 9 ⟨1,0,e0⟩ b else if op=4 then notR b else if op=10 then joinR a b else if op=18 then lenR b else if 5<=op/\op<=9 then arR op a b else cmpR op a b
def resV (r:Vl × Int):Vl:=if r.2=0 then r.1 else flt r.2
def firstK (k:Int):List Vl->Option Vl
 | [] => none
 | v :: l => if v.k=k then some v else firstK k l
def opV (op:Int) (vs:List Vl):Vl :=
 match firstK 5 vs with
 | some v => v
 | none => match firstK 4 vs with
  | some v => v
  | none => resV (compR op (vs.getD 0 zeroV) (vs.getD (vs.length - 1) zeroV))
def choV (vs:List Vl):Vl:=if (condV (vs.getD 0 zeroV)).k=2 then (if (vs.getD 0 zeroV).n=1 then vs.getD 1 zeroV else vs.getD 2 zeroV) else condV (vs.getD 0 zeroV)
def conV (b:Bool) (vs:List Vl):Vl:=if (vs.getD 0 zeroV).k=2/\(vs.getD 0 zeroV).n=bitI b then condV (vs.getD 1 zeroV) else condV (vs.getD 0 zeroV)
def evN (fs:List (ByteArray × Vl)) (d:Nd) (vs:List Vl):Vl :=
 if d.op=1 then ⟨d.k,d.n,d.s⟩ else if d.op=2 then factV fs d.nm else if d.op=17 then choV vs else if d.op=15 then conV true vs else if d.op=16 then conV false vs else opV d.op vs
mutual
def Ex.ev (fs:List (ByteArray × Vl)):Ex->Vl | .mk d l => evN fs d (evL fs l)
def evL (fs:List (ByteArray × Vl)):List Ex->List Vl | [] => [] | x :: l => Ex.ev fs x :: evL fs l
end
theorem ev_mk (fs:List (ByteArray × Vl)) (d:Nd) (l:List Ex):Ex.ev fs (.mk d l)=evN fs d (evL fs l):=by simp [Ex.ev]
theorem evL_nil (fs:List (ByteArray × Vl)):evL fs []=[]:=by simp [evL]
theorem evL_cons (fs:List (ByteArray × Vl)) (x:Ex) (l:List Ex):evL fs (x :: l)=Ex.ev fs x :: evL fs l:=by simp [evL]
theorem evL_map (fs:List (ByteArray × Vl)) (l:List Ex):evL fs l=l.map (Ex.ev fs):=by
 induction l with
 | nil => rw [evL_nil]; rfl
 | cons x l ih => rw [evL_cons,ih]; rfl
theorem evL_len (fs:List (ByteArray × Vl)) (l:List Ex):(evL fs l).length=l.length:=by rw [evL_map,List.length_map]
theorem evL_at (fs:List (ByteArray × Vl)) (l:List Ex) (i:Nat) (h:i < l.length):(evL fs l).getD i zeroV=Ex.ev fs l[i]:=by
 rw [evL_map,List.getD_eq_getElem?_getD,List.getElem?_map,List.getElem?_eq_getElem h]; rfl
theorem evL_get (fs:List (ByteArray × Vl)) (l:List Ex) (i:Nat) (h:i < l.length) (g:i < (evL fs l).length):(evL fs l)[i]=Ex.ev fs l[i]:=by
 simp only [evL_map,List.getElem_map]
theorem firstK_some {k:Int} {l:List Vl} {v:Vl} (h:firstK k l=some v):v ∈ l/\v.k=k:=by
 induction l with
 | nil => cases h
 | cons x l ih =>
  rw [firstK] at h
  by_cases e:x.k=k
  ·rw [if_pos e] at h; injection h with h; subst h; exact ⟨by simp,e⟩
  ·rw [if_neg e] at h; obtain ⟨h1,h2⟩:=ih h; exact ⟨by simp [h1],h2⟩
theorem firstK_none {k:Int} {l:List Vl}:firstK k l=none ↔ ∀ v ∈ l,v.k ≠ k:=by
 induction l with
 | nil => simp [firstK]
 | cons x l ih =>
  rw [firstK]
  by_cases e:x.k=k
  ·rw [if_pos e]; simp [e]
  ·rw [if_neg e,ih]; simp [e]
theorem firstK_skip (k:Int) (l:List Vl) (j:Nat) (h:∀ i (hi:i < l.length),i < j->l[i].k ≠ k):firstK k l=firstK k (l.drop j):=by
 induction j generalizing l with
 | zero => rw [List.drop_zero]
 | succ j ih =>
  match l,h with
  | [],_ => rfl
  | v :: l,h =>
   rw [firstK,if_neg (show ¬ v.k=k from h 0 (by simp) (by omega)),List.drop_succ_cons]
   exact ih l fun i hi hij => h (i + 1) (by simpa using hi) (by omega)
theorem firstK_hit (k:Int) (l:List Vl) (j:Nat) (hj:j < l.length) (h:∀ i (hi:i < l.length),i < j->l[i].k ≠ k) (he:l[j].k=k):firstK k l=some l[j]:=by
 rw [firstK_skip k l j h,List.drop_eq_getElem_cons hj,firstK,if_pos he]
theorem bin_ok (a b c:Int):(binE a b c=0->okN (binV a b c)=true)/\(binE a b c=0 ∨ binE a b c=7):=by
 unfold binE binV
 by_cases h:okN a=true/\okN b=true/\okN c=true
 ·rw [if_pos h,if_pos h]; exact ⟨fun _ => h.2.2,.inl rfl⟩
 ·rw [if_neg h,if_neg h]; exact ⟨fun h => absurd h (by decide),.inr rfl⟩
theorem quo_ok (a b c:Int):(quoE a b c=0->okN (quoV a b c)=true)/\(quoE a b c=0 ∨ quoE a b c=7 ∨ quoE a b c=8):=by
 unfold quoE quoV
 by_cases h:okN a=true
 ·rw [if_pos h]
  by_cases g:b=0
  ·rw [if_pos g,if_pos g]; exact ⟨fun h => absurd h (by decide),.inr (.inr rfl)⟩
  ·rw [if_neg g,if_neg g]
   exact ⟨(bin_ok a b c).1,(bin_ok a b c).2.imp_right .inl⟩
 ·rw [if_neg h]; exact ⟨fun h => absurd h (by decide),.inr (.inl rfl)⟩
theorem arN_ok (op a b:Int):((arN op a b).2=0->okN (arN op a b).1=true)/\((arN op a b).2=0 ∨ (arN op a b).2=7 ∨ (arN op a b).2=8):=by
 unfold arN
 have hb:=fun c => bin_ok a b c
 have hq:=fun c => quo_ok a b c
 split
 ·exact ⟨(hb _).1,(hb _).2.imp_right .inl⟩
 split
 ·exact ⟨(hb _).1,(hb _).2.imp_right .inl⟩
 split
 ·exact ⟨(hq _).1,(hq _).2⟩
 split
 ·exact ⟨(hq _).1,(hq _).2⟩
 ·exact ⟨(hb _).1,(hb _).2.imp_right .inl⟩
def Res (t:Int) (r:Vl × Int):Prop:=(r.2=0/\r.1.ok/\r.1.k=t) ∨ r.2=1 ∨ r.2=7 ∨ r.2=8 ∨ r.2=9
theorem arR_res (op : Int) (a b : Vl) : Res 1 (arR op a b) ∧ (a.k = 1 → b.k = 1 → (arR op a b).2 ≠ 9) := by
  unfold arR
  obtain ⟨h1, h2⟩ := arN_ok op a.n b.n
  by_cases h : a.k = 1 ∧ b.k = 1
  · rw [if_pos h]
    by_cases g : (arN op a.n b.n).2 = 0
    · rw [if_pos g]; exact ⟨.inl ⟨rfl, ok_int (h1 g), rfl⟩, fun _ _ => (by decide : (0 : Int) ≠ 9)⟩
    · rw [if_neg g]
      exact ⟨by rcases h2 with h2 | h2 | h2
                · exact absurd h2 g
                · exact .inr (.inr (.inl h2))
                · exact .inr (.inr (.inr (.inl h2))), fun _ _ => by show (arN op a.n b.n).2 ≠ 9; omega⟩
  · rw [if_neg h]; exact ⟨.inr (.inr (.inr (.inr rfl))), fun h1 h2 => absurd ⟨h1, h2⟩ h⟩
theorem notR_res (v:Vl):Res 2 (notR v)/\(v.k=2->(notR v).2=0):=by
 unfold notR
 by_cases h:v.k=2
 ·rw [if_pos h]; exact ⟨.inl ⟨rfl,ok_tru _,rfl⟩,fun _ => rfl⟩
 ·rw [if_neg h]; exact ⟨.inr (.inr (.inr (.inr rfl))),fun g => absurd g h⟩
theorem cleanL_app (a b:List UInt8):cleanL (a ++ b)=(cleanL a && cleanL b):=by unfold cleanL; rw [List.all_append]
theorem app_list (a b:ByteArray):(a ++ b).data.toList=a.data.toList ++ b.data.toList:=by
 rw [ByteArray.data_append,Array.toList_append]
theorem joinR_res {a b:Vl} (ha:a.ok) (hb:b.ok):Res 3 (joinR a b)/\(a.k=3->b.k=3->(joinR a b).2 ≠ 9):=by
 unfold joinR
 by_cases h:a.k=3/\b.k=3
 ·rw [if_pos h]
  by_cases g:40 < a.s.size + b.s.size
  ·rw [if_pos g]; exact ⟨.inr (.inl rfl),fun _ _ => by decide⟩
  ·rw [if_neg g]
   refine ⟨.inl ⟨rfl,ok_text ?_ ?_,rfl⟩,fun _ _ => (by decide:(0:Int) ≠ 9)⟩
   ·rw [ByteArray.size_append]; omega
   ·have hA:cleanL a.s.data.toList=true:=by
     rcases ok_cases ha with g | g | g | g | g
     ·omega
     ·omega
     ·exact g.2.2.2
     ·omega
     ·omega
    have hB:cleanL b.s.data.toList=true:=by
     rcases ok_cases hb with g | g | g | g | g
     ·omega
     ·omega
     ·exact g.2.2.2
     ·omega
     ·omega
    rw [app_list,cleanL_app,hA,hB]; rfl
 ·rw [if_neg h]; exact ⟨.inr (.inr (.inr (.inr rfl))),fun h1 h2 => absurd ⟨h1,h2⟩ h⟩
theorem lenR_res {v:Vl} (hv:v.ok):Res 1 (lenR v)/\(v.k=3->(lenR v).2=0):=by
 unfold lenR
 by_cases h:v.k=3
 ·rw [if_pos h]
  refine ⟨.inl ⟨rfl,ok_int ?_,rfl⟩,fun _ => rfl⟩
  rcases ok_cases hv with g | g | g | g | g
  ·omega
  ·omega
  ·exact okN_iff.2 (by omega)
  ·omega
  ·omega
 ·rw [if_neg h]; exact ⟨.inr (.inr (.inr (.inr rfl))),fun g => absurd g h⟩
theorem cmpR_res (op:Int) (a b:Vl):Res 2 (cmpR op a b)/\(a.k=b.k->(cmpR op a b).2=0):=by
 unfold cmpR
 by_cases h:a.k=b.k
 ·rw [if_pos h]; exact ⟨.inl ⟨rfl,ok_tru _,rfl⟩,fun _ => rfl⟩
 ·rw [if_neg h]; exact ⟨.inr (.inr (.inr (.inr rfl))),fun g => absurd g h⟩
theorem compR_ok (op:Int) {a b:Vl} (ha:a.ok) (hb:b.ok):(resV (compR op a b)).ok:=by
 have key:∀ t r,Res t r->(resV r).ok:=fun t r h => by
  unfold resV
  rcases h with ⟨h1,h2,_⟩ | h | h | h | h
  ·rw [if_pos h1]; exact h2
  all_goals (rw [if_neg (by omega),h]; exact ok_flt (by decide) (by decide))
 unfold compR
 split
 ·exact key _ _ (arR_res _ _ _).1
 split
 ·exact key _ _ (notR_res _).1
 split
 ·exact key _ _ (joinR_res ha hb).1
 split
 ·exact key _ _ (lenR_res hb).1
 split
 ·exact key _ _ (arR_res _ _ _).1
 ·exact key _ _ (cmpR_res _ _ _).1
theorem cond_ok {v:Vl} (h:v.ok):(condV v).ok:=by
 unfold condV; split
 ·exact ok_flt (by decide) (by decide)
 ·exact h
theorem getD_ok {vs:List Vl} (h:∀ v ∈ vs,v.ok) (i:Nat) (hi:i < vs.length):(vs.getD i zeroV).ok:=by
 rw [List.getD_eq_getElem?_getD,List.getElem?_eq_getElem hi]; exact h _ (List.getElem_mem hi)
theorem opV_ok (op:Int) {vs:List Vl} (h:∀ v ∈ vs,v.ok) (h1:1<=vs.length):(opV op vs).ok:=by
 unfold opV
 split
 ·rename_i v hv; exact h v (firstK_some hv).1
 split
 ·rename_i v hv; exact h v (firstK_some hv).1
 ·exact compR_ok op (getD_ok h 0 (by omega)) (getD_ok h (vs.length - 1) (by omega))
theorem choV_ok {vs:List Vl} (h:∀ v ∈ vs,v.ok) (h1:vs.length=3):(choV vs).ok:=by
 unfold choV
 split
 ·split
  ·exact getD_ok h 1 (by omega)
  ·exact getD_ok h 2 (by omega)
 ·exact cond_ok (getD_ok h 0 (by omega))
theorem conV_ok (b:Bool) {vs:List Vl} (h:∀ v ∈ vs,v.ok) (h1:vs.length=2):(conV b vs).ok:=by
 unfold conV
 split
 ·exact cond_ok (getD_ok h 1 (by omega))
 ·exact cond_ok (getD_ok h 0 (by omega))
theorem arity_cases (op:Int):(op=17->arity op=3)/\(op=15 ∨ op=16->arity op=2)/\(op ≠ 1->op ≠ 2->1<=arity op/\arity op<=3)/\(op ≠ 1->op ≠ 2->op ≠ 17->arity op<=2)/\((op=3 ∨ op=4 ∨ op=18)->arity op=1)/\(5<=op->op<=14->arity op=2):=by
 unfold arity
 refine ⟨?_,?_,?_,?_,?_,?_⟩ <;> intros <;> (repeat' split) <;> omega
theorem okN_const {d:Nd} {l:List Ex} (h:(Ex.mk d l).okN) (h1:d.op=1):knownB d.k d.n d.s.data.toList=true:=by
 have:=((okN_mk d l).1 h).1
 unfold nodeE at this
 rw [if_neg (by omega)] at this
 by_cases h2:l.length=arity d.op/\vOk d=true/\nmOk d=true
 ·have h3:=h2.2.1
  unfold vOk at h3
  rw [if_pos h1,Bool.and_eq_true] at h3
  exact h3.1
 ·rw [if_neg h2] at this; exact absurd this (by decide)
theorem known_ok {k n:Int} {s:ByteArray} (h:knownB k n s.data.toList=true):(⟨k,n,s⟩:Vl).ok:=by
 unfold knownB at h
 rw [Bool.and_eq_true,decide_eq_true_eq] at h
 exact h.2
theorem known_kind {k n:Int} {l:List UInt8} (h:knownB k n l=true):k=1 ∨ k=2 ∨ k=3:=by
 unfold knownB isT at h
 simp only [Bool.and_eq_true,Bool.or_eq_true,decide_eq_true_eq] at h
 omega
theorem ev_ok {fs:List (ByteArray × Vl)} (hf:∀ f ∈ fs,f.2.ok):∀ x:Ex,x.okN->(Ex.ev fs x).ok:=by
 refine Ex.ind fun d l ih => ?_
 intro h
 obtain ⟨o1,o2,o3⟩:=okN_op h
 have hl:=((okN_mk d l).1 h).2
 have hv:∀ v ∈ evL fs l,v.ok:=fun v hv => by
  rw [evL_map] at hv
  obtain ⟨x,hx,rfl⟩:=List.mem_map.1 hv
  exact ih x hx (hl x hx)
 have hn:=evL_len fs l
 obtain ⟨a1,a2,a3,_⟩:=arity_cases d.op
 rw [ev_mk]
 unfold evN
 split
 ·rename_i g; exact known_ok (okN_const h g)
 split
 ·exact factV_ok hf _
 split
 ·exact choV_ok hv (by rw [hn,o3]; exact a1 (by assumption))
 split
 ·exact conV_ok _ hv (by rw [hn,o3]; exact a2 (.inl (by assumption)))
 split
 ·exact conV_ok _ hv (by rw [hn,o3]; exact a2 (.inr (by assumption)))
 ·exact opV_ok _ hv (by rw [hn,o3]; exact (a3 (by assumption) (by assumption)).1)
def badF:List (ByteArray × Vl)->Int
 | [] => 0
 | f :: l => if valE f.2.k f.2.n f.2.s.data.toList=0 then badF l else valE f.2.k f.2.n f.2.s.data.toList
def ofE (fs:List (ByteArray × Vl)) (x:Ex):Int:=if x.checkE=0 then badF fs else x.checkE
def ofV (fs:List (ByteArray × Vl)) (x:Ex):Vl:=if ofE fs x=0 then Ex.ev fs x else zeroV
theorem badF_zero (fs:List (ByteArray × Vl)):badF fs=0 ↔ ∀ f ∈ fs,f.2.ok:=by
 induction fs with
 | nil => simp [badF]
 | cons f l ih =>
  rw [badF]
  by_cases h:valE f.2.k f.2.n f.2.s.data.toList=0
  ·rw [if_pos h,ih]; simp [Vl.ok,h]
  ·rw [if_neg h]; simp [Vl.ok,h]
theorem badF_skip (fs:List (ByteArray × Vl)) (k:Nat) (h:∀ j (hj:j < fs.length),j < k->fs[j].2.ok):badF fs=badF (fs.drop k):=by
 induction k generalizing fs with
 | zero => rw [List.drop_zero]
 | succ k ih =>
  match fs,h with
  | [],_ => rfl
  | f :: l,h =>
   rw [badF,if_pos (show valE f.2.k f.2.n f.2.s.data.toList=0 from h 0 (by simp) (by omega)),List.drop_succ_cons]
   exact ih l fun j hj hjk => h (j + 1) (by simpa using hj) (by omega)
theorem badF_hit (fs:List (ByteArray × Vl)) (k:Nat) (hk:k < fs.length) (h:∀ j (hj:j < fs.length),j < k->fs[j].2.ok) (he:¬ fs[k].2.ok):badF fs=valE fs[k].2.k fs[k].2.n fs[k].2.s.data.toList:=by
 rw [badF_skip fs k h,List.drop_eq_getElem_cons hk,badF,if_neg (show ¬ valE fs[k].2.k fs[k].2.n fs[k].2.s.data.toList=0 from he)]
theorem ofE_ok {fs:List (ByteArray × Vl)} {x:Ex} (h1:x.checkE=0) (h2:∀ f ∈ fs,f.2.ok):ofE fs x=0/\ofV fs x=Ex.ev fs x:=by
 have:ofE fs x=0:=by unfold ofE; rw [if_pos h1]; exact (badF_zero fs).2 h2
 exact ⟨this,by unfold ofV; rw [if_pos this]⟩
end EvM
namespace EvP
open Go.Lib
open NumM ValM ExM NmM TyM StrM EvM
theorem ev_local (fs gs:List (ByteArray × Vl)):∀ x:Ex,(∀ s ∈ Ex.refs x,factV fs s=factV gs s)->Ex.ev fs x=Ex.ev gs x:=by
 refine Ex.ind fun d l ih => ?_
 intro h
 have e:evL fs l=evL gs l:=by
  rw [evL_map,evL_map]
  refine List.map_congr_left fun x hx => ih x hx fun s hs => h s ?_
  rw [refs_mk,List.mem_append]
  exact .inr (mem_refsL hx hs)
 rw [ev_mk,ev_mk,e]
 unfold evN
 by_cases h1:d.op=1
 ·rw [if_pos h1,if_pos h1]
 rw [if_neg h1,if_neg h1]
 by_cases h2:d.op=2
 ·rw [if_pos h2,if_pos h2]
  exact h _ (by rw [refs_mk_pos d l h2]; simp)
 ·rw [if_neg h2,if_neg h2]
def Gro (v w:Vl):Prop:=w.k=4 ∨ v=w ∨ (v.k=5/\w.k=5)
theorem gro_refl (v:Vl):Gro v v:=.inr (.inl rfl)
theorem gro_cond {v w:Vl} (h:Gro v w):Gro (condV v) (condV w):=by
 rcases h with h | h | ⟨h1,h2⟩
 ·left; unfold condV; rw [if_neg (by omega)]; exact h
 ·right; left; rw [h]
 ·right; right; unfold condV; rw [if_neg (by omega),if_neg (by omega)]; exact ⟨h1,h2⟩
def GroL (l m:List Vl):Prop:=l.length=m.length/\∀ i,i < l.length->Gro (l.getD i zeroV) (m.getD i zeroV)
theorem groL_cons {v w:Vl} {l m:List Vl}:GroL (v :: l) (w :: m) ↔ Gro v w/\GroL l m:=by
 constructor
 ·intro ⟨h1,h2⟩
  refine ⟨by simpa using h2 0 (by simp),by simpa using h1,fun i hi => ?_⟩
  have:=h2 (i + 1) (by simpa using hi)
  simpa using this
 ·intro ⟨h,h1,h2⟩
  refine ⟨by simp [h1],fun i hi => ?_⟩
  match i,hi with
  | 0,_ => simpa using h
  | i + 1,hi => simpa using h2 i (by simpa using hi)
theorem gro_fault {l m:List Vl} (h:GroL l m) {w:Vl} (hw:firstK 5 m=some w):∃ v,firstK 5 l=some v/\v.k=5:=by
 induction m generalizing l with
 | nil => cases hw
 | cons y m ih =>
  match l,h with
  | [],h => exact absurd h.1 (by simp)
  | x :: l,h =>
   obtain ⟨g,h⟩:=groL_cons.1 h
   rw [firstK] at hw ⊢
   by_cases hx:x.k=5
   ·exact ⟨x,by rw [if_pos hx],hx⟩
   ·rw [if_neg hx]
    by_cases hy:y.k=5
    ·rcases g with g | g | ⟨g,_⟩
     ·omega
     ·rw [g] at hx; exact absurd hy hx
     ·exact absurd g hx
    ·rw [if_neg hy] at hw
     exact ih h hw
theorem gro_same {l m:List Vl} (h:GroL l m) (h4:firstK 4 m=none) (h5:firstK 5 m=none):l=m:=by
 induction m generalizing l with
 | nil =>
  match l,h with
  | [],_ => rfl
  | x :: l,h => exact absurd h.1 (by simp)
 | cons y m ih =>
  match l,h with
  | [],h => exact absurd h.1 (by simp)
  | x :: l,h =>
   obtain ⟨g,h⟩:=groL_cons.1 h
   rw [firstK_none] at h4 h5
   have e:x=y:=by
    rcases g with g | g | ⟨_,g⟩
    ·exact absurd g (h4 y (by simp))
    ·exact g
    ·exact absurd g (h5 y (by simp))
   rw [e,ih h (firstK_none.2 fun v hv => h4 v (by simp [hv])) (firstK_none.2 fun v hv => h5 v (by simp [hv]))]
theorem gro_op (op:Int) {l m:List Vl} (h:GroL l m):Gro (opV op l) (opV op m):=by
 rcases h5:firstK 5 m with _ | w
 ·rcases h4:firstK 4 m with _ | w
  ·rw [gro_same h h4 h5]; exact gro_refl _
  ·left
   unfold opV
   rw [h5,h4]
   exact (firstK_some h4).2
 ·right; right
  obtain ⟨v,hv,hk⟩:=gro_fault h h5
  unfold opV
  rw [h5,hv]
  exact ⟨hk,(firstK_some h5).2⟩
theorem gro_get {l m:List Vl} (h:GroL l m) (i:Nat):Gro (l.getD i zeroV) (m.getD i zeroV):=by
 by_cases hi:i < l.length
 ·exact h.2 i hi
 ·have hm:¬ i < m.length:=by rw [← h.1]; exact hi
  rw [List.getD_eq_getElem?_getD,List.getD_eq_getElem?_getD,List.getElem?_eq_none (by omega),List.getElem?_eq_none (by omega)]
  exact gro_refl _
theorem cond_kind (v:Vl):(condV v).k=2->v.k=2:=by
 unfold condV; split
 ·intro h; exact absurd h (by decide)
 ·exact id
theorem gro_cho {l m:List Vl} (h:GroL l m):Gro (choV l) (choV m):=by
 have g0:=gro_get h 0
 have gc:=gro_cond g0
 unfold choV
 rcases gc with g | g | ⟨g1,g2⟩
 ·left; rw [if_neg (by omega)]; exact g
 ·by_cases hk:(condV (m.getD 0 zeroV)).k=2
  ·have hm:=cond_kind _ hk
   have hl:=cond_kind (l.getD 0 zeroV) (by rw [g]; exact hk)
   have e:l.getD 0 zeroV=m.getD 0 zeroV:=by
    rcases g0 with g | g | ⟨_,g⟩
    ·omega
    ·exact g
    ·omega
   rw [if_pos (by rw [g]; exact hk),if_pos hk,e]
   split
   ·exact gro_get h 1
   ·exact gro_get h 2
  ·rw [if_neg (by rw [g]; exact hk),if_neg hk,g]; exact gro_refl _
 ·right; right; rw [if_neg (by omega),if_neg (by omega)]; exact ⟨g1,g2⟩
theorem gro_con (b:Bool) {l m:List Vl} (h:GroL l m):Gro (conV b l) (conV b m):=by
 have g0:=gro_get h 0
 unfold conV
 rcases g0 with g | g | ⟨g1,g2⟩
 ·left; rw [if_neg (c:=(m.getD 0 zeroV).k=2/\_) (by omega)]; unfold condV; rw [if_neg (by omega)]; exact g
 ·rw [g]
  split
  ·exact gro_cond (gro_get h 1)
  ·exact gro_refl _
 ·right; right; rw [if_neg (by omega),if_neg (by omega)]; unfold condV; rw [if_neg (by omega),if_neg (by omega)]; exact ⟨g1,g2⟩
theorem ev_gro {fs gs:List (ByteArray × Vl)} (h:∀ s,Gro (factV fs s) (factV gs s)):∀ x:Ex,Gro (Ex.ev fs x) (Ex.ev gs x):=by
 refine Ex.ind fun d l ih => ?_
 have hl:GroL (evL fs l) (evL gs l):=⟨by rw [evL_len,evL_len],fun i hi => by
  rw [evL_len] at hi
  rw [evL_at fs l i hi,evL_at gs l i hi]; exact ih _ (List.getElem_mem hi)⟩
 rw [ev_mk,ev_mk]
 unfold evN
 split
 ·exact gro_refl _
 split
 ·exact h _
 split
 ·exact gro_cho hl
 split
 ·exact gro_con true hl
 split
 ·exact gro_con false hl
 ·exact gro_op _ hl
def Snd (t:Int) (v:Vl):Prop:=v.ok/\(v.k=t ∨ (v.k=5/\(v.n=7 ∨ v.n=8 ∨ v.n=1)))
theorem snd_res {t:Int} {r:Vl × Int} (h:Res t r) (h9:r.2 ≠ 9):Snd t (resV r):=by
 unfold resV
 rcases h with ⟨h1,h2,h3⟩ | h | h | h | h
 ·rw [if_pos h1]; exact ⟨h2,.inl h3⟩
 ·rw [if_neg (by omega),h]; exact ⟨ok_flt (by decide) (by decide),.inr ⟨rfl,.inr (.inr rfl)⟩⟩
 ·rw [if_neg (by omega),h]; exact ⟨ok_flt (by decide) (by decide),.inr ⟨rfl,.inl rfl⟩⟩
 ·rw [if_neg (by omega),h]; exact ⟨ok_flt (by decide) (by decide),.inr ⟨rfl,.inr (.inl rfl)⟩⟩
 ·exact absurd h h9
theorem snd_two {a b:Vl} {t u r op:Int} (ha:Snd t a) (hb:Snd u b) (ht:t<=3) (hu:u<=3) (hc:a.k=t->b.k=u->Snd r (resV (compR op a b))):Snd r (opV op [a,b]):=by
 unfold opV
 rcases ha with ⟨oa,ha | ⟨ha,fa⟩⟩
 ·rcases hb with ⟨ob,hb | ⟨hb,fb⟩⟩
  ·rw [show firstK 5 [a,b]=none by rw [firstK,if_neg (by omega),firstK,if_neg (by omega)]; rfl,show firstK 4 [a,b]=none by rw [firstK,if_neg (by omega),firstK,if_neg (by omega)]; rfl]
   exact hc ha hb
  ·rw [show firstK 5 [a,b]=some b by rw [firstK,if_neg (by omega),firstK,if_pos hb]]
   exact ⟨ob,.inr ⟨hb,fb⟩⟩
 ·rw [show firstK 5 [a,b]=some a by rw [firstK,if_pos ha]]
  exact ⟨oa,.inr ⟨ha,fa⟩⟩
theorem snd_one {a:Vl} {t r op:Int} (ha:Snd t a) (ht:t<=3) (hc:a.k=t->Snd r (resV (compR op a a))):Snd r (opV op [a]):=by
 unfold opV
 rcases ha with ⟨oa,ha | ⟨ha,fa⟩⟩
 ·rw [show firstK 5 [a]=none by rw [firstK,if_neg (by omega)]; rfl,show firstK 4 [a]=none by rw [firstK,if_neg (by omega)]; rfl]
  exact hc ha
 ·rw [show firstK 5 [a]=some a by rw [firstK,if_pos ha]]
  exact ⟨oa,.inr ⟨ha,fa⟩⟩
theorem len1 {α:Type} {l:List α} (h:l.length=1):∃ a,l=[a]:=by
 match l,h with
 | [a],_ => exact ⟨a,rfl⟩
theorem len2 {α:Type} {l:List α} (h:l.length=2):∃ a b,l=[a,b]:=by
 match l,h with
 | [a,b],_ => exact ⟨a,b,rfl⟩
theorem len3 {α:Type} {l:List α} (h:l.length=3):∃ a b c,l=[a,b,c]:=by
 match l,h with
 | [a,b,c],_ => exact ⟨a,b,c,rfl⟩
theorem cond_snd {v:Vl} (h:Snd 2 v):condV v=v:=by
 unfold condV; rw [if_neg (by rcases h with ⟨_,h | h⟩ <;> omega)]
def Typed (fs:List (ByteArray × Int)) (gs:List (ByteArray × Vl)):Prop:=∀ s t,fieldT fs s=(t,0)->Snd t (factV gs s)
theorem ty_types {d:Nd} {l:List Ex} {fs:List (ByteArray × Int)} {t:Int} (h:Ex.ty fs (.mk d l)=(t,0)) (h1:d.op ≠ 1) (h2:d.op ≠ 2):(∀ x ∈ l,(Ex.ty fs x).2=0)/\applyR (ruleReq d.op) (ruleRes d.op) ((tyL fs l).map (·.1))=(t,0):=by
 rw [ty_mk] at h
 unfold tyN at h
 rw [if_neg h1,if_neg h2] at h
 by_cases he:errL (tyL fs l)=0
 ·rw [if_pos he] at h
  refine ⟨?_,h⟩
  clear h
  induction l with
  | nil => intro x hx; exact absurd hx (by simp)
  | cons x l ih =>
   rw [tyL_cons,errL] at he
   by_cases g:(Ex.ty fs x).2=0
   ·rw [if_pos g] at he
    intro y hy
    rcases List.mem_cons.1 hy with rfl | hy
    ·exact g
    ·exact ih he y hy
   ·rw [if_neg g] at he; exact absurd he g
 ·rw [if_neg he] at h; injection h with _ h; exact absurd h he
theorem app_fits {req:List Int} {res t:Int} {ts:List Int} (h:applyR req res ts=(t,0)):fitsR req ts/\settl res (lastT ts)=t:=by
 unfold applyR at h
 by_cases g:fitsR req ts
 ·rw [if_pos g] at h; injection h with h _; exact ⟨g,h⟩
 ·rw [if_neg g] at h; injection h with _ h; exact absurd h (by decide)
theorem ty_le {fs:List (ByteArray × Int)} (hfs:∀ s t,fieldT fs s=(t,0)->1<=t/\t<=3):∀ (x:Ex) (t:Int),x.okN->Ex.ty fs x=(t,0)->1<=t/\t<=3:=by
 refine Ex.ind fun d l ih => ?_
 intro t hok h
 obtain ⟨o1,o2,o3⟩:=okN_op hok
 have hokl:=((okN_mk d l).1 hok).2
 by_cases h1:d.op=1
 ·have:=known_kind (okN_const hok h1)
  rw [ty_mk] at h; unfold tyN at h; rw [if_pos h1] at h; injection h with h _; omega
 by_cases h2:d.op=2
 ·rw [ty_mk] at h; unfold tyN at h; rw [if_neg h1,if_pos h2] at h; exact hfs _ _ h
 obtain ⟨g1,g2⟩:=ty_types h h1 h2
 obtain ⟨_,g4⟩:=app_fits g2
 have hpos:=(arity_cases d.op).2.2.1 h1 h2
 have hlast:1<=lastT ((tyL fs l).map (·.1))/\lastT ((tyL fs l).map (·.1))<=3:=by
  have hlt:l.length - 1 < l.length:=by omega
  have e:lastT ((tyL fs l).map (·.1))=(Ex.ty fs l[l.length - 1]).1:=by
   unfold lastT
   rw [List.length_map,tyL_len,tyL_map,List.map_map,List.getD_eq_getElem?_getD,List.getElem?_map,List.getElem?_eq_getElem hlt]; rfl
  rw [e]
  have hm:=List.getElem_mem hlt
  exact ih _ hm _ (hokl _ hm) (Prod.ext rfl (g1 _ hm))
 unfold settl at g4
 by_cases hr:ruleRes d.op=0
 ·rw [if_pos hr] at g4; omega
 ·rw [if_neg hr] at g4
  have:ruleRes d.op=0 ∨ ruleRes d.op=3 ∨ ruleRes d.op=2 ∨ ruleRes d.op=1:=by
   unfold ruleRes; repeat' split
   all_goals omega
  omega
set_option maxHeartbeats 1000000 in
theorem ev_snd {fs:List (ByteArray × Int)} {gs:List (ByteArray × Vl)} (hfs:∀ s t,fieldT fs s=(t,0)->1<=t/\t<=3) (hg:Typed fs gs):∀ (x:Ex) (t:Int),x.okN->Ex.ty fs x=(t,0)->Snd t (Ex.ev gs x):=by
 refine Ex.ind fun d l ih => ?_
 intro t hok h
 obtain ⟨o1,o2,o3⟩:=okN_op hok
 have hokl:=((okN_mk d l).1 hok).2
 have hle:=ty_le hfs _ t hok h
 by_cases h1:d.op=1
 ·have hk:=okN_const hok h1
  rw [ty_mk] at h; unfold tyN at h; rw [if_pos h1] at h; injection h with h _
  rw [ev_mk]; unfold evN; rw [if_pos h1]
  exact ⟨known_ok hk,.inl h⟩
 by_cases h2:d.op=2
 ·rw [ty_mk] at h; unfold tyN at h; rw [if_neg h1,if_pos h2] at h
  rw [ev_mk]; unfold evN; rw [if_neg h1,if_pos h2]
  exact hg _ _ h
 obtain ⟨g1,g2⟩:=ty_types h h1 h2
 obtain ⟨g3,g4⟩:=app_fits g2
 have each:∀ x ∈ l,Snd (Ex.ty fs x).1 (Ex.ev gs x)/\1<=(Ex.ty fs x).1/\(Ex.ty fs x).1<=3:=fun x hx =>
  ⟨ih x hx _ (hokl x hx) (Prod.ext rfl (g1 x hx)),ty_le hfs x _ (hokl x hx) (Prod.ext rfl (g1 x hx))⟩
 obtain ⟨a1,a2,a3,a4,a5,a6⟩:=arity_cases d.op
 rw [ev_mk]; unfold evN; rw [if_neg h1,if_neg h2]
 by_cases p17:d.op=17
 ·obtain ⟨x,y,z,rfl⟩:=len3 (o3.trans (a1 p17))
  rw [if_pos p17]
  rw [p17] at g3 g4
  simp only [tyL_cons,tyL_nil,List.map_cons,List.map_nil] at g3 g4
  have q0:(Ex.ty fs x).1=2:=by have:=g3 0 (by decide); simpa [ruleReq,settl] using this
  have q1:(Ex.ty fs y).1=(Ex.ty fs z).1:=by have:=g3 1 (by decide); simpa [ruleReq,settl,lastT] using this
  have q2:(Ex.ty fs z).1=t:=by simpa [ruleRes,settl,lastT] using g4
  have ex:=(each x (by simp)).1
  have ey:=(each y (by simp)).1
  have ez:=(each z (by simp)).1
  rw [q0] at ex
  rw [q1,q2] at ey
  rw [q2] at ez
  simp only [evL_cons,evL_nil]
  unfold choV
  simp only [List.getD_cons_zero,List.getD_cons_succ]
  rw [cond_snd ex]
  by_cases k2:(Ex.ev gs x).k=2
  ·rw [if_pos k2]; split
   ·exact ey
   ·exact ez
  ·rw [if_neg k2]
   rcases ex with ⟨o,e | e⟩
   ·exact absurd e k2
   ·exact ⟨o,.inr e⟩
 rw [if_neg p17]
 have conv:∀ b,d.op=15 ∨ d.op=16->Snd t (conV b (evL gs l)):=fun b p => by
  obtain ⟨x,y,rfl⟩:=len2 (o3.trans (a2 p))
  simp only [tyL_cons,tyL_nil,List.map_cons,List.map_nil] at g3 g4
  have hreq:ruleReq d.op=[2,2]:=by rcases p with p | p <;> rw [p] <;> rfl
  have hres:ruleRes d.op=2:=by rcases p with p | p <;> rw [p] <;> rfl
  rw [hreq] at g3
  rw [hres] at g4
  have q0:(Ex.ty fs x).1=2:=by have:=g3 0 (by simp); simpa [settl] using this
  have q1:(Ex.ty fs y).1=2:=by have:=g3 1 (by simp); simpa [settl] using this
  have q2:t=2:=by simpa [settl] using g4.symm
  subst q2
  have ex:=(each x (by simp)).1
  have ey:=(each y (by simp)).1
  rw [q0] at ex
  rw [q1] at ey
  simp only [evL_cons,evL_nil]
  unfold conV
  simp only [List.getD_cons_zero,List.getD_cons_succ]
  rw [cond_snd ex,cond_snd ey]
  split
  ·exact ey
  ·exact ex
 by_cases p15:d.op=15
 ·rw [if_pos p15]; exact conv true (.inl p15)
 rw [if_neg p15]
 by_cases p16:d.op=16
 ·rw [if_pos p16]; exact conv false (.inr p16)
 rw [if_neg p16]
 by_cases pu:d.op=3 ∨ d.op=4 ∨ d.op=18
 ·obtain ⟨x,rfl⟩:=len1 (o3.trans (a5 pu))
  simp only [tyL_cons,tyL_nil,List.map_cons,List.map_nil] at g3 g4
  obtain ⟨ex,_,hx3⟩:=each x (by simp)
  simp only [evL_cons,evL_nil]
  refine snd_one ex hx3 fun hk => ?_
  unfold compR
  rcases pu with p | p | p
  ·rw [p] at g3 g4
   have q0:(Ex.ty fs x).1=1:=by have:=g3 0 (by decide); simpa [ruleReq,settl] using this
   have q2:t=1:=by simpa [ruleRes,settl] using g4.symm
   subst q2
   rw [if_pos p]
   exact snd_res (arR_res _ _ _).1 ((arR_res _ _ _).2 rfl (by omega))
  ·rw [p] at g3 g4
   have q0:(Ex.ty fs x).1=2:=by have:=g3 0 (by decide); simpa [ruleReq,settl] using this
   have q2:t=2:=by simpa [ruleRes,settl] using g4.symm
   subst q2
   rw [if_neg (by omega),if_pos p]
   exact snd_res (notR_res _).1 (by rw [(notR_res _).2 (by omega)]; decide)
  ·rw [p] at g3 g4
   have q0:(Ex.ty fs x).1=3:=by have:=g3 0 (by decide); simpa [ruleReq,settl] using this
   have q2:t=1:=by simpa [ruleRes,settl] using g4.symm
   subst q2
   rw [if_neg (by omega),if_neg (by omega),if_neg (by omega),if_pos p]
   exact snd_res (lenR_res ex.1).1 (by rw [(lenR_res ex.1).2 (by omega)]; decide)
 ·obtain ⟨x,y,rfl⟩:=len2 (o3.trans (a6 (by omega) (by omega)))
  simp only [tyL_cons,tyL_nil,List.map_cons,List.map_nil] at g3 g4
  obtain ⟨ex,_,hx3⟩:=each x (by simp)
  obtain ⟨ey,_,hy3⟩:=each y (by simp)
  simp only [evL_cons,evL_nil]
  refine snd_two ex ey hx3 hy3 fun hk hj => ?_
  unfold compR
  rw [if_neg (by omega),if_neg (by omega)]
  by_cases p10:d.op=10
  ·rw [p10] at g3 g4
   have q0:(Ex.ty fs x).1=3:=by have:=g3 0 (by decide); simpa [ruleReq,settl] using this
   have q1:(Ex.ty fs y).1=3:=by have:=g3 1 (by decide); simpa [ruleReq,settl] using this
   have q2:t=3:=by simpa [ruleRes,settl] using g4.symm
   subst q2
   rw [if_pos p10]
   exact snd_res (joinR_res ex.1 ey.1).1 ((joinR_res ex.1 ey.1).2 (by omega) (by omega))
  rw [if_neg p10,if_neg (by omega)]
  by_cases p5:5<=d.op/\d.op<=9
  ·have hreq:ruleReq d.op=[1,1]:=by
    have:d.op=5 ∨ d.op=6 ∨ d.op=7 ∨ d.op=8 ∨ d.op=9:=by omega
    rcases this with p | p | p | p | p <;> rw [p] <;> rfl
   have hres:ruleRes d.op=1:=by
    have:d.op=5 ∨ d.op=6 ∨ d.op=7 ∨ d.op=8 ∨ d.op=9:=by omega
    rcases this with p | p | p | p | p <;> rw [p] <;> rfl
   rw [hreq] at g3
   rw [hres] at g4
   have q0:(Ex.ty fs x).1=1:=by have:=g3 0 (by simp); simpa [settl] using this
   have q1:(Ex.ty fs y).1=1:=by have:=g3 1 (by simp); simpa [settl] using this
   have q2:t=1:=by simpa [settl] using g4.symm
   subst q2
   rw [if_pos p5]
   exact snd_res (arR_res _ _ _).1 ((arR_res _ _ _).2 (by omega) (by omega))
  ·rw [if_neg p5]
   have hreq:ruleReq d.op=[0,0]:=by
    have:d.op=11 ∨ d.op=12 ∨ d.op=13 ∨ d.op=14:=by omega
    rcases this with p | p | p | p <;> rw [p] <;> rfl
   have hres:ruleRes d.op=2:=by
    have:d.op=11 ∨ d.op=12 ∨ d.op=13 ∨ d.op=14:=by omega
    rcases this with p | p | p | p <;> rw [p] <;> rfl
   rw [hreq] at g3
   rw [hres] at g4
   have q0:(Ex.ty fs x).1=(Ex.ty fs y).1:=by have:=g3 0 (by simp); simpa [settl,lastT] using this
   have q2:t=2:=by simpa [settl] using g4.symm
   subst q2
   exact snd_res (cmpR_res _ _ _).1 (by rw [(cmpR_res _ _ _).2 (by omega)]; decide)
end EvP
namespace FoM
open Go.Lib
open NumM ValM ExM NmM TyM StrM EvM EvP
def knV (v:Vl):Bool:=knownB v.k v.n v.s.data.toList
theorem cond_four {v:Vl} (h:v.k ≠ 4):(condV v).k ≠ 4:=by
 unfold condV; split
 ·exact (by decide:(5:Int) ≠ 4)
 ·exact h
theorem res_four {t:Int} {r:Vl × Int} (h:Res t r) (ht:t ≠ 4):(resV r).k ≠ 4:=by
 unfold resV
 rcases h with ⟨h1,_,h3⟩ | h1 | h1 | h1 | h1
 ·rw [if_pos h1,h3]; exact ht
 all_goals (rw [if_neg (by omega)]; exact (by decide:(5:Int) ≠ 4))
theorem comp_four (op:Int) {a b:Vl} (ha:a.ok) (hb:b.ok):(resV (compR op a b)).k ≠ 4:=by
 unfold compR
 split
 ·exact res_four (arR_res _ _ _).1 (by decide)
 split
 ·exact res_four (notR_res _).1 (by decide)
 split
 ·exact res_four (joinR_res ha hb).1 (by decide)
 split
 ·exact res_four (lenR_res hb).1 (by decide)
 split
 ·exact res_four (arR_res _ _ _).1 (by decide)
 ·exact res_four (cmpR_res _ _ _).1 (by decide)
end FoM
namespace NotTab
open Go.ChangeShapes Go.WideShapes
abbrev Rw:=List UInt8 × Int × Int
def rowD {H:Type} (z:Rw):DataW H:=.agg [.lit (.string z.1),.lit (.int .i64 z.2.1),.lit (.int .i64 z.2.2)]
def rowC (z:Rw):List Value:=[.string ⟨z.1.toArray⟩,.int .i64 z.2.1,.int .i64 z.2.2]
def datum {H:Type} (zs:List Rw):DataW H:=.agg (zs.map rowD)
def Is (P:Program) (w:World) (name:String) (zs:List Rw):Prop:=w.var? P name=some (zs.flatMap rowC).toArray
theorem len3 {α:Type} {l:List α} (h:l.length=3):∃ a b c,l=[a,b,c]:=by
 match l,h with
 | [a,b,c],_ => exact ⟨a,b,c,rfl⟩
theorem row_of {H:Type} {enc:TypeId × Value->H} {P:Program} {w:World} {base:Nat} {sp:Nat->Bool} {held:Bool} {fuel:Nat} {e:TypeId} {f0 f1 f2:Field} {cs:List Value} {z:Rw} {p:List MemPlace}
  (he:P.underlying e=some (.struct #[f0,f1,f2])) (hce:P.cellsOf e=3) (o0:f0.offset=0) (o1:f1.offset=1) (o2:f2.offset=2) (u0:P.underlying f0.type=some .string) (u1:P.underlying f1.type=some (.int .i64)) (u2:P.underlying f2.type=some (.int .i64))
  (c0:P.cellsOf f0.type=1) (c1:P.cellsOf f1.type=1) (c2:P.cellsOf f2.type=1)
  (h:DataW.trod enc P w base sp held fuel e cs=some (rowD z,p)):cs=rowC z:=by
 obtain ⟨xs,n,_,hx,hl,hxl,hf⟩:=DataW.trod_struct he h
 rw [hce] at hl
 obtain ⟨a,b,c,rfl⟩:=len3 hl
 obtain ⟨y0,y1,y2,rfl⟩:=len3 (show xs.length=3 from hxl)
 have g0:=hf 0 f0 rfl
 have g1:=hf 1 f1 rfl
 have g2:=hf 2 f2 rfl
 rw [o0,c0] at g0
 rw [o1,c1] at g1
 rw [o2,c2] at g2
 obtain ⟨s,e0,d0,_⟩:=DataW.trod_string u0 g0
 obtain ⟨i,e1,d1,_⟩:=DataW.trod_int u1 g1
 obtain ⟨j,e2,d2,_⟩:=DataW.trod_int u2 g2
 have hx1:=congrArg Prod.fst hx
 simp only [rowD,List.map_cons,List.map_nil,d0,d1,d2,DataW.agg.injEq,List.cons.injEq,DataW.lit.injEq,Lit.string.injEq,Lit.int.injEq,true_and,and_true] at hx1
 obtain ⟨h1,h2,h3⟩:=hx1
 simp at e0 e1 e2
 subst e0 e1 e2
 simp [rowC,h1,h2,h3]
theorem flat_at (zs:List Rw):∀ (i:Nat) (z:Rw),zs[i]?=some z->∀ j,j < 3->(zs.flatMap rowC)[i * 3 + j]?=(rowC z)[j]?:=by
 induction zs with
 | nil => intro i z h; simp at h
 | cons y zs ih =>
  intro i z h j hj
  rw [List.flatMap_cons]
  cases i with
  | zero =>
   simp at h; subst h
   rw [List.getElem?_append_left (by simp [rowC]; omega)]; simp
  | succ i =>
   rw [List.getElem?_append_right (by simp [rowC]; omega),show (i + 1) * 3 + j - (rowC y).length=i * 3 + j by simp [rowC]; omega]
   exact ih i z (by simpa using h) j hj
theorem flat_len (zs:List Rw):(zs.flatMap rowC).length=zs.length * 3:=by
 induction zs with
 | nil => rfl
 | cons y zs ih => rw [List.flatMap_cons,List.length_append,ih,List.length_cons]; show 3 + _=_; omega
theorem cells_of {H:Type} {enc:TypeId × Value->H} {P:Program} {w:World} {base:Nat} {sp:Nat->Bool} {held:Bool} {fuel:Nat} {t e:TypeId} {f0 f1 f2:Field} {n:Nat} {cs:List Value} {zs:List Rw} {p:List MemPlace}
  (ht:P.underlying t=some (.array n e)) (hct:P.cellsOf t=n * 3)
  (he:P.underlying e=some (.struct #[f0,f1,f2])) (hce:P.cellsOf e=3) (o0:f0.offset=0) (o1:f1.offset=1) (o2:f2.offset=2) (u0:P.underlying f0.type=some .string) (u1:P.underlying f1.type=some (.int .i64)) (u2:P.underlying f2.type=some (.int .i64))
  (c0:P.cellsOf f0.type=1) (c1:P.cellsOf f1.type=1) (c2:P.cellsOf f2.type=1)
  (h:DataW.trod enc P w base sp held fuel t cs=some (datum zs,p)):cs=zs.flatMap rowC:=by
 cases fuel with
 | zero => simp [DataW.trod] at h
 | succ fuel =>
  simp only [DataW.trod,ht,hce,hct] at h
  split at h
  ·rename_i hl
   obtain ⟨xs,hm,hx⟩:=Option.map_eq_some_iff.1 h
   have hxs:xs.map (·.1)=zs.map (rowD (H:=H)):=by
    have:=congrArg Prod.fst hx
    simpa [datum] using this
   have hxl:xs.length=n:=by simpa using Lib.mapM_length hm
   have hzl:zs.length=n:=by
    have:=congrArg List.length hxs
    simp at this
    omega
   apply List.ext_getElem?
   intro q
   by_cases hq:q < n * 3
   ·obtain ⟨i,j,hj,rfl⟩:∃ i j,j < 3/\q=i * 3 + j:=⟨q / 3,q % 3,Nat.mod_lt _ (by omega),by omega⟩
    have hi:i < n:=by omega
    obtain ⟨b,hb,hf⟩:=Lib.mapM_at hm i i (by simp [hi])
    have hz:zs[i]?=some zs[i]:=List.getElem?_eq_getElem (by omega)
    have h2:(xs.map (·.1))[i]?=some b.1:=by simp [hb]
    rw [hxs,List.getElem?_map,hz] at h2
    simp only [Option.map_some,Option.some.injEq] at h2
    obtain ⟨b1,b2⟩:=b
    simp only at h2
    subst h2
    have hr:=row_of he hce o0 o1 o2 u0 u1 u2 c0 c1 c2 hf
    rw [flat_at zs i _ hz j hj,← hr,List.getElem?_take,if_pos hj,List.getElem?_drop]
   ·rw [List.getElem?_eq_none (by omega),List.getElem?_eq_none (by rw [flat_len]; omega)]
  ·cases h
theorem is_of_head {P:Program} {W:World} {name:String} {zs:List Rw} {rest:List (String × DataW Unit)} {g:Nat} {t e:TypeId} {f0 f1 f2:Field} {n:Nat}
  (hg:P.globalNamed name=some g) (hty:(P.globals[g]?).map (·.type)=some t) (ht:P.underlying t=some (.array n e)) (hct:P.cellsOf t=n * 3)
  (he:P.underlying e=some (.struct #[f0,f1,f2])) (hce:P.cellsOf e=3) (o0:f0.offset=0) (o1:f1.offset=1) (o2:f2.offset=2) (u0:P.underlying f0.type=some .string) (u1:P.underlying f1.type=some (.int .i64)) (u2:P.underlying f2.type=some (.int .i64))
  (c0:P.cellsOf f0.type=1) (c1:P.cellsOf f1.type=1) (c2:P.cellsOf f2.type=1)
  (h:laidMet P ((name,datum zs) :: rest) W):Is P W name zs:=by
 obtain ⟨ps,⟨g',t',cs,fuel,p,q,hg',ht',hvar,hd,_,_⟩,_⟩:=h
 obtain rfl:=Option.some.inj (hg.symm.trans hg')
 obtain rfl:=Option.some.inj (hty.symm.trans ht')
 unfold Is
 rw [hvar,← cells_of ht hct he hce o0 o1 o2 u0 u1 u2 c0 c1 c2 hd]
theorem Is.cell {P:Program} {W:World} {name:String} {zs:List Rw} {g:Nat} (h:Is P W name zs) (hg:P.globalNamed name=some g) (i:Nat) (z:Rw) (hi:zs[i]?=some z) :
  W.cell? ⟨g,i * 3,none⟩=some (.string ⟨z.1.toArray⟩)/\W.cell? ⟨g,i * 3 + 1,none⟩=some (.int .i64 z.2.1)/\W.cell? ⟨g,i * 3 + 2,none⟩=some (.int .i64 z.2.2):=by
 have f:=fun j hj => flat_at zs i z hi j hj
 refine ⟨?_,?_,?_⟩
 ·have:=World.var?_cell hg h (i * 3)
  rw [this]; simpa [rowC] using f 0 (by omega)
 ·have:=World.var?_cell hg h (i * 3 + 1)
  rw [this]; simpa [rowC] using f 1 (by omega)
 ·have:=World.var?_cell hg h (i * 3 + 2)
  rw [this]; simpa [rowC] using f 2 (by omega)
def rows:List Rw:=[([],0,0),([],6,0),([],6,0),([45],5,1),([110,111,116],5,1),([42],4,2),([47],4,2),([37],4,2),([43],3,2),([45],3,2),([38],3,2),([60],2,2),([60,61],2,2),([61],2,2),([33,61],2,2),([97,110,100],1,2),([111,114],0,2),([105,102],6,3),([108,101,110],6,1)]
end NotTab
namespace LexB
open Go.RowKit
open LexM
set_option linter.unusedVariables false
theorem low_t {c:UInt8} (h1:(97:Int)<=c.toNat) (h2:(c.toNat:Int)<=122):lowB c=true:=by unfold lowB; simp; omega
theorem low_f {c:UInt8} (h:(c.toNat:Int) < 97 ∨ (122:Int) < c.toNat):lowB c=false:=by
 unfold lowB; rw [Bool.and_eq_false_iff]; simp; omega
theorem dig_t {c:UInt8} (h1:(48:Int)<=c.toNat) (h2:(c.toNat:Int)<=57):digB c=true:=by unfold digB; simp; omega
theorem dig_f {c:UInt8} (h:(c.toNat:Int) < 48 ∨ (57:Int) < c.toNat):digB c=false:=by
 unfold digB; rw [Bool.and_eq_false_iff]; simp; omega
theorem isLetter_any (c:UInt8) (w:World) :
  Calls Tryz.prog 153 #[.int .u8 (c.toNat:Int)] w fun e w' => e=.returned (.bool (lowB c))/\w=w':=by
 by_cases h1:(97:Int)<=c.toNat
 ·by_cases h2:(c.toNat:Int)<=122
  ·rw [low_t h1 h2]
   have d1:decide ((97:Int)<=c.toNat)=true:=decide_eq_true h1
   have d2:decide ((c.toNat:Int)<=122)=true:=decide_eq_true h2
   go_enter Tryz.func153,Tryz.ntmps153
   go_wp2
   go_ret
   exact ⟨rfl,rfl⟩
  ·rw [low_f (.inr (by omega))]
   have d1:decide ((97:Int)<=c.toNat)=true:=decide_eq_true h1
   have d2:decide ((c.toNat:Int)<=122)=false:=decide_eq_false h2
   go_enter Tryz.func153,Tryz.ntmps153
   go_wp2
   go_ret
   exact ⟨rfl,rfl⟩
 ·rw [low_f (.inl (by omega))]
  have d1:decide ((97:Int)<=c.toNat)=false:=decide_eq_false h1
  go_enter Tryz.func153,Tryz.ntmps153
  go_wp2
  go_ret
  exact ⟨rfl,rfl⟩
theorem isDigit_any (c:UInt8) (w:World) :
  Calls Tryz.prog 178 #[.int .u8 (c.toNat:Int)] w fun e w' => e=.returned (.bool (digB c))/\w=w':=by
 by_cases h1:(48:Int)<=c.toNat
 ·by_cases h2:(c.toNat:Int)<=57
  ·rw [dig_t h1 h2]
   have d1:decide ((48:Int)<=c.toNat)=true:=decide_eq_true h1
   have d2:decide ((c.toNat:Int)<=57)=true:=decide_eq_true h2
   go_enter Tryz.func178,Tryz.ntmps178
   go_wp2
   go_ret
   exact ⟨rfl,rfl⟩
  ·rw [dig_f (.inr (by omega))]
   have d1:decide ((48:Int)<=c.toNat)=true:=decide_eq_true h1
   have d2:decide ((c.toNat:Int)<=57)=false:=decide_eq_false h2
   go_enter Tryz.func178,Tryz.ntmps178
   go_wp2
   go_ret
   exact ⟨rfl,rfl⟩
 ·rw [dig_f (.inl (by omega))]
  have d1:decide ((48:Int)<=c.toNat)=false:=decide_eq_false h1
  go_enter Tryz.func178,Tryz.ntmps178
  go_wp2
  go_ret
  exact ⟨rfl,rfl⟩
theorem isAln_any (c:UInt8) (w:World) :
  Calls Tryz.prog 155 #[.int .u8 (c.toNat:Int)] w fun e w' => e=.returned (.bool (alnB c))/\w=w':=by
 have c1:=fun W => isLetter_any c W
 have c2:=fun W => isDigit_any c W
 have e:alnB c=(lowB c || digB c):=rfl
 rw [e]
 clear e
 obtain ⟨a,ha⟩:∃ a,lowB c=a:=⟨_,rfl⟩
 obtain ⟨b,hb⟩:∃ b,digB c=b:=⟨_,rfl⟩
 rw [ha] at c1 ⊢
 rw [hb] at c2 ⊢
 have C1:=Lib.hid c1
 have C2:=Lib.hid c2
 clear c1 c2 ha hb
 cases a
 all_goals
  go_enter Tryz.func155,Tryz.ntmps155
  go_wp2_with (first | (go_at_call 153; (with_reducible refine (C1.out _).mono ?_); rintro e w1 ⟨rfl,rfl⟩) | (go_at_call 178; (with_reducible refine (C2.out _).mono ?_); rintro e w1 ⟨rfl,rfl⟩))
  go_ret
  exact ⟨by simp,rfl⟩
theorem take_snoc (s:ByteArray) (k:Nat) (h:k < s.size):s.data.toList.take (k + 1)=s.data.toList.take k ++ [s[k]]:=by
 rw [List.take_succ_eq_append_getElem (by simpa using h)]; rfl
theorem drop_cons (s:ByteArray) (k:Nat) (h:k < s.size):s.data.toList.drop k=s[k] :: s.data.toList.drop (k + 1):=by
 rw [List.drop_eq_getElem_cons (by simpa using h)]; rfl
theorem len_size (s:ByteArray):s.data.toList.length=s.size:=rfl
def tw (p:UInt8->Bool) (s:ByteArray):Nat:=(s.data.toList.takeWhile p).length
theorem tw_stop (p:UInt8->Bool) (s:ByteArray) (k:Nat) (hk:k<=s.size) (h:(s.data.toList.take k).all p=true) (h2:∀ g:k < s.size,p s[k]=false):tw p s=k:=by
 unfold tw
 have e:s.data.toList=s.data.toList.take k ++ s.data.toList.drop k:=(List.take_append_drop k _).symm
 have e2:(s.data.toList.drop k).takeWhile p=[]:=by
  by_cases g:k < s.size
  ·rw [drop_cons s k g,List.takeWhile_cons,h2 g]; rfl
  ·rw [List.drop_eq_nil_of_le (by rw [len_size]; omega)]; rfl
 rw [e,List.takeWhile_append_of_pos (fun a ha => List.all_eq_true.1 h a ha),e2,List.append_nil,List.length_take,len_size]
 omega
theorem all_step (p:UInt8->Bool) (s:ByteArray) (k:Nat) (hk:k < s.size) (h:(s.data.toList.take k).all p=true) (h2:p s[k]=true):(s.data.toList.take (k + 1)).all p=true:=by
 rw [take_snoc s k hk,List.all_append,h]; simp [h2]
theorem leading_dig (s:ByteArray) (w:World) (hs:s.size<=9223372036854775807) :
  Calls Tryz.prog 154 #[.string s,.func (.func 178) #[] #[]] w fun e w' => e=.returned (.string (s.extract 0 (tw digB s)))/\w=w':=by
 go_enter Tryz.func154,Tryz.ntmps154
 go_wp2_with fail
 go_loop [5] (fun i => ∃ k:Nat,k<=s.size/\i=.int .i64 k/\(s.data.toList.take k).all digB=true) (fun i => s.size - (intOf i).toNat)
 case atStart => exact ⟨0,Nat.zero_le _,rfl,rfl⟩
 case round =>
  obtain ⟨k,hk,rfl,ha⟩:=hrel
  by_cases hlt:k < s.size
  ·have c1:=fun W => isDigit_any s[k] W
   obtain ⟨b,hb⟩:∃ b,digB s[k]=b:=⟨_,rfl⟩
   rw [hb] at c1
   have C1:=Lib.hid c1
   have HA:=Lib.hid ha
   have HB:=Lib.hid hb
   clear c1 ha hb
   cases b
   ·go_wp2_with (first | (go_at_call 178; (with_reducible refine (C1.out _).mono ?_); rintro e w1 ⟨rfl,rfl⟩))
    go_ret
    exact ⟨by rw [tw_stop digB s k (by omega) HA.out (fun _ => HB.out)]; rfl,rfl⟩
   ·go_wp2_with (first | (go_at_call 178; (with_reducible refine (C1.out _).mono ?_); rintro e w1 ⟨rfl,rfl⟩))
    go_round
    case rel => exact ⟨k + 1,by omega,by go_num,all_step digB s k hlt HA.out HB.out⟩
    case measure => simp [intOf]; omega
  ·have HA:=Lib.hid ha
   clear ha
   go_wp2_with fail
   go_ret
   exact ⟨by rw [tw_stop digB s k (by omega) HA.out (fun g => absurd g hlt)]; rfl,rfl⟩
theorem leading_aln (s:ByteArray) (w:World) (hs:s.size<=9223372036854775807) :
  Calls Tryz.prog 154 #[.string s,.func (.func 155) #[] #[]] w fun e w' => e=.returned (.string (s.extract 0 (tw alnB s)))/\w=w':=by
 go_enter Tryz.func154,Tryz.ntmps154
 go_wp2_with fail
 go_loop [5] (fun i => ∃ k:Nat,k<=s.size/\i=.int .i64 k/\(s.data.toList.take k).all alnB=true) (fun i => s.size - (intOf i).toNat)
 case atStart => exact ⟨0,Nat.zero_le _,rfl,rfl⟩
 case round =>
  obtain ⟨k,hk,rfl,ha⟩:=hrel
  by_cases hlt:k < s.size
  ·have c1:=fun W => isAln_any s[k] W
   obtain ⟨b,hb⟩:∃ b,alnB s[k]=b:=⟨_,rfl⟩
   rw [hb] at c1
   have C1:=Lib.hid c1
   have HA:=Lib.hid ha
   have HB:=Lib.hid hb
   clear c1 ha hb
   cases b
   ·go_wp2_with (first | (go_at_call 155; (with_reducible refine (C1.out _).mono ?_); rintro e w1 ⟨rfl,rfl⟩))
    go_ret
    exact ⟨by rw [tw_stop alnB s k (by omega) HA.out (fun _ => HB.out)]; rfl,rfl⟩
   ·go_wp2_with (first | (go_at_call 155; (with_reducible refine (C1.out _).mono ?_); rintro e w1 ⟨rfl,rfl⟩))
    go_round
    case rel => exact ⟨k + 1,by omega,by go_num,all_step alnB s k hlt HA.out HB.out⟩
    case measure => simp [intOf]; omega
  ·have HA:=Lib.hid ha
   clear ha
   go_wp2_with fail
   go_ret
   exact ⟨by rw [tw_stop alnB s k (by omega) HA.out (fun g => absurd g hlt)]; rfl,rfl⟩
theorem eqb_of (s:ByteArray) (l:List UInt8):(s.toList == l)=decide (s.data.toList=l):=by
 rw [ByteArray.toList_eq,Bool.eq_iff_iff]; simp
theorem bytes_of {s:ByteArray} {l:List UInt8} (h:s.data.toList=l):s=⟨l.toArray⟩:=by
 obtain ⟨⟨x⟩⟩:=s; cases h; rfl
theorem key_any (s:ByteArray) (w:World) :
  Calls Tryz.prog 156 #[.string s] w fun e w' => e=.returned (.bool (keyB s.data.toList))/\w=w':=by
 by_cases h0:s.data.toList=[97,110,100]
 ·rw [h0]
  obtain rfl:=bytes_of h0
  have e:keyB [97,110,100]=true:=by decide
  rw [e]
  go_enter Tryz.func156,Tryz.ntmps156
  go_wp2
  go_ret
  exact ⟨rfl,rfl⟩
 by_cases h1:s.data.toList=[111,114]
 ·rw [h1]
  obtain rfl:=bytes_of h1
  have e:keyB [111,114]=true:=by decide
  rw [e]
  go_enter Tryz.func156,Tryz.ntmps156
  go_wp2
  go_ret
  exact ⟨rfl,rfl⟩
 by_cases h2:s.data.toList=[110,111,116]
 ·rw [h2]
  obtain rfl:=bytes_of h2
  have e:keyB [110,111,116]=true:=by decide
  rw [e]
  go_enter Tryz.func156,Tryz.ntmps156
  go_wp2
  go_ret
  exact ⟨rfl,rfl⟩
 by_cases h3:s.data.toList=[116,114,117,101]
 ·rw [h3]
  obtain rfl:=bytes_of h3
  have e:keyB [116,114,117,101]=true:=by decide
  rw [e]
  go_enter Tryz.func156,Tryz.ntmps156
  go_wp2
  go_ret
  exact ⟨rfl,rfl⟩
 by_cases h4:s.data.toList=[102,97,108,115,101]
 ·rw [h4]
  obtain rfl:=bytes_of h4
  have e:keyB [102,97,108,115,101]=true:=by decide
  rw [e]
  go_enter Tryz.func156,Tryz.ntmps156
  go_wp2
  go_ret
  exact ⟨rfl,rfl⟩
 by_cases h5:s.data.toList=[105,102]
 ·rw [h5]
  obtain rfl:=bytes_of h5
  have e:keyB [105,102]=true:=by decide
  rw [e]
  go_enter Tryz.func156,Tryz.ntmps156
  go_wp2
  go_ret
  exact ⟨rfl,rfl⟩
 by_cases h6:s.data.toList=[108,101,110]
 ·rw [h6]
  obtain rfl:=bytes_of h6
  have e:keyB [108,101,110]=true:=by decide
  rw [e]
  go_enter Tryz.func156,Tryz.ntmps156
  go_wp2
  go_ret
  exact ⟨rfl,rfl⟩
 have e:keyB s.data.toList=false:=by unfold keyB; simp [h0,h1,h2,h3,h4,h5,h6]
 rw [e]
 have t0:(s.toList == [97,110,100])=false:=by rw [eqb_of]; exact decide_eq_false h0
 have t1:(s.toList == [111,114])=false:=by rw [eqb_of]; exact decide_eq_false h1
 have t2:(s.toList == [110,111,116])=false:=by rw [eqb_of]; exact decide_eq_false h2
 have t3:(s.toList == [116,114,117,101])=false:=by rw [eqb_of]; exact decide_eq_false h3
 have t4:(s.toList == [102,97,108,115,101])=false:=by rw [eqb_of]; exact decide_eq_false h4
 have t5:(s.toList == [105,102])=false:=by rw [eqb_of]; exact decide_eq_false h5
 have t6:(s.toList == [108,101,110])=false:=by rw [eqb_of]; exact decide_eq_false h6
 clear e h0 h1 h2 h3 h4 h5 h6
 go_enter Tryz.func156,Tryz.ntmps156
 go_wp2
 go_ret
 exact ⟨rfl,rfl⟩
def nameE (l:List UInt8):Int:=if l=[] ∨ 10 < l.length then 1 else if nameB l=true/\keyB l=false then 0 else 3
theorem empty_f (s:ByteArray) (h:0 < s.size):(!s.toList.isEmpty)=true/\s.toList.isEmpty=false/\s.data.toList ≠ []:=by
 have e:s.data.toList ≠ []:=fun e => by
  have:s.data.toList.length=0:=by rw [e]; rfl
  rw [len_size] at this; omega
 rw [ByteArray.toList_eq]
 cases hd:s.data.toList with
 | nil => exact absurd hd e
 | cons a r => simp
theorem head_of (s:ByteArray) (h:0 < s.size):∃ r,s.data.toList=s[0] :: r:=⟨_,by have:=drop_cons s 0 h; rwa [List.drop_zero] at this⟩
theorem tw_eq (s:ByteArray):(s.extract 0 (tw alnB s)).data.toList=s.data.toList.takeWhile alnB:=by
 have e:(s.extract 0 (tw alnB s)).data.toList=s.data.toList.take (tw alnB s):=by simp [ByteArray.data_extract]
 rw [e]
 unfold tw
 exact LexM.take_tw alnB _
set_option maxHeartbeats 1000000 in
theorem name_any (s:ByteArray) (w:World) (hs:s.size<=9223372036854775807) :
  Calls Tryz.prog 124 #[.string s] w fun e w' => e=.returned (.int .i64 (nameE s.data.toList))/\w=w':=by
 by_cases h0:s.size=0
 ·have e:s=⟨#[]⟩:=bytes_of (List.eq_nil_of_length_eq_zero h0)
  subst e
  go_enter Tryz.func124,Tryz.ntmps124
  go_wp2
  go_ret
  exact ⟨rfl,rfl⟩
 ·obtain ⟨n1,n2,n3⟩:=empty_f s (by omega)
  by_cases h10:10 < s.size
  ·have e:nameE s.data.toList=1:=by unfold nameE; rw [if_pos (.inr h10)]
   rw [e]
   clear e n3
   go_enter Tryz.func124,Tryz.ntmps124
   go_wp2
   go_ret
   exact ⟨rfl,rfl⟩
  ·have e:nameE s.data.toList=if nameB s.data.toList=true/\keyB s.data.toList=false then 0 else 3:=by
    unfold nameE; rw [if_neg]; rintro (g | g)
    ·exact n3 g
    ·rw [len_size] at g; omega
   rw [e]
   have hp:0 < s.size:=by omega
   have hpi:(0:Int) < s.size:=by omega
   have c1:=fun W => isLetter_any s[0] W
   have c2:=fun W => leading_aln s W hs
   have c3:=fun W => key_any s W
   obtain ⟨b1,hb1⟩:∃ b,lowB s[0]=b:=⟨_,rfl⟩
   obtain ⟨b3,hb3⟩:∃ b,keyB s.data.toList=b:=⟨_,rfl⟩
   obtain ⟨t,ht⟩:∃ t,s.extract 0 (tw alnB s)=t:=⟨_,rfl⟩
   obtain ⟨b2,hb2⟩:∃ b,(t.toList != s.toList)=b:=⟨_,rfl⟩
   have f2:nameB s.data.toList=(b1 && !b2):=by
    obtain ⟨r,hr⟩:=head_of s hp
    have g1:=tw_eq s
    rw [ht] at g1
    have g2:(t.data.toList=s.data.toList) ↔ s.data.toList.all alnB=true:=by rw [g1]; exact LexM.tw_id alnB _
    have g3:b2=!(s.data.toList.all alnB):=by
     rw [← hb2,ByteArray.toList_eq,ByteArray.toList_eq]; unfold bne; congr 1
     rw [Bool.eq_iff_iff,← g2]; simp
    rw [g3,Bool.not_not,Bool.eq_iff_iff,hr]
    unfold nameB
    rw [← hb1]
    simp only [Bool.and_eq_true,List.all_cons]
    unfold alnB
    constructor
    ·rintro ⟨x,y⟩; exact ⟨x,by rw [x]; rfl,y⟩
    ·rintro ⟨x,_,y⟩; exact ⟨x,y⟩
   rw [hb1] at c1
   rw [hb3] at c3 ⊢
   rw [ht] at c2
   rw [f2]
   have k1:(t.toList == s.toList)=!b2:=by rw [← hb2]; unfold bne; rw [Bool.not_not]
   have C1:=Lib.hid c1
   have C2:=Lib.hid c2
   have C3:=Lib.hid c3
   clear c1 c2 c3 hb1 hb3 ht f2 e n3
   cases b1 <;> cases b2 <;> cases b3
   all_goals
    go_enter Tryz.func124,Tryz.ntmps124
    go_wp2_with (first | (go_at_call 153; (with_reducible refine (C1.out _).mono ?_); rintro e w1 ⟨rfl,rfl⟩) | (go_at_call 154; (with_reducible refine (C2.out _).mono ?_); rintro e w1 ⟨rfl,rfl⟩) | (go_at_call 156; (with_reducible refine (C3.out _).mono ?_); rintro e w1 ⟨rfl,rfl⟩))
    go_ret
    exact ⟨rfl,rfl⟩
end LexB
end Go.Proofs.YtonlkmkfcaadlaaGreatDoor
