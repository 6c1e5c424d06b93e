/- Base ShowMath ParseMath NotTab PrintMath ParsMath PsLex: what these laws name of them. -/
import GoSem.Claim
import Derived.Lib.Bytealg
import Derived.Lib.Small
import Derived.Lib.AtoiAll
import Derived.Lib.UnsafeStr
import Derived.Lib.ItoaNum
import Derived.Lib.AtoiTie
import Derived.Lib.ItoaMem
import Derived.LaidLaws
import Derived.ChangeArms
import Derived.Lib.LaidTab
import Derived.ChangeOld
import Derived.WideShapes
namespace Go.Proofs.YtjhhmdmmllblhaaGreatDoor
set_option linter.unusedVariables false
namespace NumM
def okN (n:Int):Bool:=decide (-1099511627776<=n/\n<=1099511627776)
theorem okN_iff {n:Int}:okN n=true ↔ (-1099511627776<=n/\n<=1099511627776):=by unfold okN; exact decide_eq_true_iff
theorem okN_not {n:Int}:¬ okN n=true ↔ (n < -1099511627776 ∨ 1099511627776 < n):=by rw [okN_iff]; omega
end NumM
namespace ValM
open NumM
def cleanL (l:List UInt8):Bool:=l.all fun c => decide (32<=c.toNat) && decide (c.toNat<=126)
def numE (k n:Int):Int :=
 if k=1 then (if okN n then 0 else 7)
 else if k=2 then (if 0<=n/\n<=1 then 0 else 4)
 else if k=3 ∨ k=4 then (if n=0 then 0 else 4)
 else if k=5 then (if 1<=n/\n<=15 then 0 else 4)
 else 2
def strE (k:Int) (l:List UInt8):Int :=
 if k=3 then (if 40 < l.length then 1 else if cleanL l then 0 else 3) else (if l=[] then 0 else 3)
def valE (k n:Int) (l:List UInt8):Int:=if numE k n=0 then strE k l else numE k n
def isT (k:Int):Bool:=decide (k=1) || decide (k=2) || decide (k=3)
def knownB (k n:Int) (l:List UInt8):Bool:=isT k && decide (valE k n l=0)
theorem cleanL_snoc (l:List UInt8) (c:UInt8):cleanL (l ++ [c])=(cleanL l && (decide (32<=c.toNat) && decide (c.toNat<=126))):=by
 unfold cleanL; rw [List.all_append]; simp
theorem take_snoc (s:ByteArray) (k:Nat) (h:k < s.size):s.data.toList.take (k + 1)=s.data.toList.take k ++ [s[k]]:=by
 rw [List.take_succ_eq_append_getElem (by simpa using h)]; rfl
theorem cleanL_bad (s:ByteArray) (k:Nat) (h:k < s.size) (hb:s[k].toNat < 32 ∨ 126 < s[k].toNat):cleanL s.data.toList=false:=by
 unfold cleanL
 rw [List.all_eq_false]
 refine ⟨s[k],?_,?_⟩
 ·have:s[k]=s.data.toList[k]'(by simpa using h):=rfl
  rw [this]; exact List.getElem_mem _
 ·simp only [Bool.and_eq_true,decide_eq_true_eq,not_and,Nat.not_le]; omega
theorem cleanL_step (s:ByteArray) (k:Nat) (h:k < s.size) (hk:cleanL (s.data.toList.take k)=true) (h1:32<=s[k].toNat) (h2:s[k].toNat<=126):cleanL (s.data.toList.take (k + 1))=true:=by
 rw [take_snoc s k h,cleanL_snoc,hk]; simp [h1,h2]
theorem cleanL_all (s:ByteArray) (k:Nat) (h:s.size<=k) (hk:cleanL (s.data.toList.take k)=true):cleanL s.data.toList=true:=by
 rw [List.take_of_length_le (by simpa using h)] at hk; exact hk
theorem len_size (s:ByteArray):s.data.toList.length=s.size:=rfl
theorem not_nil (s:ByteArray) (h:0 < s.size):s.data.toList ≠ []:=fun e => by
 have:s.data.toList.length=0:=by rw [e]; rfl
 rw [len_size] at this; omega
theorem strE_clean {l:List UInt8} (h1:l.length<=40) (h2:cleanL l=true):strE 3 l=0:=by
 unfold strE; rw [if_pos rfl,if_neg (by omega),if_pos h2]
theorem strE_foul {l:List UInt8} (h1:l.length<=40) (h2:cleanL l=false):strE 3 l=3:=by
 unfold strE; rw [if_pos rfl,if_neg (by omega),if_neg (by simp [h2])]
theorem strE_long {l:List UInt8} (h1:40 < l.length):strE 3 l=1:=by
 unfold strE; rw [if_pos rfl,if_pos h1]
theorem strE_other {k:Int} {l:List UInt8} (hk:k ≠ 3):strE k l=if l=[] then 0 else 3:=by
 unfold strE; rw [if_neg hk]
end ValM
namespace StrM
open Go.Lib
end StrM
namespace LexM
def lowB (c:UInt8):Bool:=decide (97<=c.toNat) && decide (c.toNat<=122)
def digB (c:UInt8):Bool:=decide (48<=c.toNat) && decide (c.toNat<=57)
def alnB (c:UInt8):Bool:=lowB c || digB c
def sgnB (c:UInt8):Bool:=decide (c=60) || decide (c=61) || decide (c=43) || decide (c=45) || decide (c=42) || decide (c=47) || decide (c=37) || decide (c=38) || decide (c=40) || decide (c=41) || decide (c=44)
structure Tok where
 kind:Int
 len:Nat
 vk:Int
 n:Int
 t:List UInt8
inductive Fst where
 | bad (e:Int)
 | tok (t:Tok)
def quoF:List UInt8->Option (Nat × List UInt8)
 | [] => none
 | [c] => if c=34 then some (1,[]) else none
 | c :: d :: r =>
  if c=34 then some (1,[])
  else if c.toNat < 32 ∨ 126 < c.toNat then none
  else if c=92 then (if d=34 ∨ d=92 then (quoF r).map fun x => (x.1 + 2,d :: x.2) else none)
  else (quoF (d :: r)).map fun x => (x.1 + 1,c :: x.2)
def numT (d:List UInt8):Fst :=
 if d.head?=some 48/\1 < d.length then .bad 3
 else match Lib.atoiAll d with
  | .ok n => if 1099511627776 < n then .bad 7 else .tok ⟨1,d.length,1,n,[]⟩
  | _ => .bad 7
def wordT (d:List UInt8):Fst:=if 10 < d.length then .bad 1 else .tok ⟨2,d.length,0,0,[]⟩
def quoT (r:List UInt8):Fst :=
 match quoF r with
 | none => .bad 3
 | some (m,t) => if 40 < t.length then .bad 1 else .tok ⟨3,m + 1,3,0,t⟩
def sgnT (c:UInt8) (r:List UInt8):Fst :=
 if (c=60 ∨ c=33)/\r.head?=some 61 then .tok ⟨4,2,0,0,[]⟩ else if sgnB c then .tok ⟨4,1,0,0,[]⟩ else .bad 3
def firstF:List UInt8->Fst
 | [] => .bad 3
 | c :: r =>
  if digB c then numT ((c :: r).takeWhile digB)
  else if lowB c then wordT ((c :: r).takeWhile alnB)
  else if c=34 then quoT r
  else sgnT c r
theorem first_cons (c:UInt8) (r:List UInt8):firstF (c :: r)=if digB c then numT ((c :: r).takeWhile digB) else if lowB c then wordT ((c :: r).takeWhile alnB) else if c=34 then quoT r else sgnT c r:=rfl
structure Tk where
 kind:Int
 pos:Nat
 s:List UInt8
 vk:Int
 n:Int
 t:List UInt8
inductive Res where
 | bad (pos:Nat) (e:Int)
 | ok (l:List Tk)
def Res.cons (x:Tk):Res->Res
 | .bad p e => .bad p e
 | .ok l => .ok (x :: l)
def mk (t:Tok) (pos:Nat) (l:List UInt8):Tk:=⟨t.kind,pos,l.take t.len,t.vk,t.n,t.t⟩
def toks:Nat->List UInt8->Nat->Res
 | 0,_,_ => .ok []
 | _ + 1,[],_ => .ok []
 | f + 1,c :: r,p =>
  if c=32 then toks f r (p + 1)
  else match firstF (c :: r) with
   | .bad e => .bad p e
   | .tok t => (toks f ((c :: r).drop t.len) (p + t.len)).cons (mk t p (c :: r))
def fin (acc:List Tk):Res->List Tk × Nat × Int
 | .bad p e => ([],p,e)
 | .ok l => (acc ++ l,0,0)
def lexR (l:List UInt8):List Tk × Nat × Int:=if 160 < l.length then ([],0,1) else fin [] (toks (l.length + 1) l 0)
theorem fin_cons (acc:List Tk) (x:Tk) (r:Res):fin acc (r.cons x)=fin (acc ++ [x]) r:=by
 cases r <;> simp [fin,Res.cons]
theorem tw_len (p:UInt8->Bool):∀ l:List UInt8,(l.takeWhile p).length<=l.length
 | [] => by simp
 | c :: l => by
  rw [List.takeWhile_cons]
  split
  ·have:=tw_len p l; simp; omega
  ·simp
theorem quoF_len:∀ (l:List UInt8) (m:Nat) (t:List UInt8),quoF l=some (m,t)->1<=m/\m<=l.length/\t.length < m
 | [],m,t,h => by simp [quoF] at h
 | [c],m,t,h => by
  unfold quoF at h
  split at h
  ·simp only [Option.some.injEq,Prod.mk.injEq] at h; obtain ⟨rfl,rfl⟩:=h; simp
  ·cases h
 | c :: d :: r,m,t,h => by
  unfold quoF at h
  split at h
  ·simp only [Option.some.injEq,Prod.mk.injEq] at h; obtain ⟨rfl,rfl⟩:=h; simp
  ·split at h
   ·cases h
   ·split at h
    ·split at h
     ·obtain ⟨⟨m',t'⟩,h',hx⟩:=Option.map_eq_some_iff.1 h
      simp only [Prod.mk.injEq] at hx; obtain ⟨rfl,rfl⟩:=hx
      have:=quoF_len r m' t' h'
      simp only [List.length_cons]; omega
     ·cases h
    ·obtain ⟨⟨m',t'⟩,h',hx⟩:=Option.map_eq_some_iff.1 h
     simp only [Prod.mk.injEq] at hx; obtain ⟨rfl,rfl⟩:=hx
     have:=quoF_len (d :: r) m' t' h'
     simp only [List.length_cons] at this ⊢; omega
theorem numT_tok {d:List UInt8} {t:Tok} (h:numT d=.tok t):t.len=d.length/\t.kind=1/\t.vk=1/\t.t=[]:=by
 unfold numT at h
 split at h
 ·cases h
 ·split at h
  ·split at h
   ·cases h
   ·injection h with h; subst h; simp
  ·cases h
theorem wordT_tok {d:List UInt8} {t:Tok} (h:wordT d=.tok t):t=⟨2,d.length,0,0,[]⟩/\d.length<=10:=by
 unfold wordT at h
 split at h
 ·cases h
 ·injection h with h; exact ⟨h.symm,by omega⟩
theorem quoT_tok {r:List UInt8} {t:Tok} (h:quoT r=.tok t):∃ m u,quoF r=some (m,u)/\u.length<=40/\t=⟨3,m + 1,3,0,u⟩:=by
 unfold quoT at h
 split at h
 ·cases h
 ·rename_i m u hq
  split at h
  ·cases h
  ·injection h with h; exact ⟨m,u,hq,by omega,h.symm⟩
theorem first_len {l:List UInt8} {t:Tok} (h:firstF l=.tok t):1<=t.len/\t.len<=l.length:=by
 cases l with
 | nil => cases h
 | cons c r =>
  rw [first_cons] at h
  split at h
  ·rename_i hd
   obtain ⟨h1,_⟩:=numT_tok h
   have h2:=tw_len digB (c :: r)
   rw [h1]; refine ⟨?_,h2⟩
   rw [List.takeWhile_cons,if_pos hd]; simp
  ·split at h
   ·rename_i hd
    obtain ⟨rfl,_⟩:=wordT_tok h
    have h2:=tw_len alnB (c :: r)
    refine ⟨?_,h2⟩
    show 1<=((c :: r).takeWhile alnB).length
    rw [List.takeWhile_cons,if_pos (by simp [alnB,hd])]; simp
   ·split at h
    ·obtain ⟨m,u,hq,_,rfl⟩:=quoT_tok h
     have:=quoF_len r m u hq
     simp; omega
    ·unfold sgnT at h
     split at h
     ·rename_i hh
      injection h with h; subst h
      cases r with
      | nil => simp at hh
      | cons d r => simp
     ·split at h
      ·injection h with h; subst h; simp
      ·cases h
theorem tw_cut (p:UInt8->Bool):∀ (l r:List UInt8),(r=[] ∨ (∃ c,r.head?=some c/\p c=false) ∨ r.head?=(l.drop (l.takeWhile p).length).head?) →
  (l.take (l.takeWhile p).length ++ r).takeWhile p=l.takeWhile p
 | [],r,h => by
  cases r with
  | nil => rfl
  | cons d r =>
   rcases h with h | ⟨c,h,hp⟩ | h
   ·cases h
   ·simp at h; subst h; simp [hp]
   ·simp at h
 | c :: l,r,h => by
  rw [List.takeWhile_cons] at h ⊢
  by_cases hc:p c=true
  ·rw [if_pos hc] at h ⊢
   simp only [List.length_cons,List.take_succ_cons,List.cons_append,List.drop_succ_cons] at h ⊢
   rw [List.takeWhile_cons,if_pos hc,tw_cut p l r h]
  ·rw [if_neg hc] at h ⊢
   cases r with
   | nil => rfl
   | cons d r =>
    have hd:p d=false:=by
     rcases h with h | ⟨c',h,hp⟩ | h
     ·cases h
     ·simp at h; subst h; exact hp
     ·simp at h; subst h; simpa using hc
    simp [hd]
theorem quoF_cut:∀ (l r:List UInt8) (m:Nat) (t:List UInt8),quoF l=some (m,t)->quoF (l.take m ++ r)=some (m,t)
 | [],_,m,t,h => by simp [quoF] at h
 | [c],r,m,t,h => by
  unfold quoF at h
  split at h
  ·rename_i hc
   simp only [Option.some.injEq,Prod.mk.injEq] at h; obtain ⟨rfl,rfl⟩:=h
   subst hc
   cases r <;> simp [quoF]
  ·cases h
 | c :: d :: r',r,m,t,h => by
  unfold quoF at h
  split at h
  ·rename_i hc
   simp only [Option.some.injEq,Prod.mk.injEq] at h; obtain ⟨rfl,rfl⟩:=h
   subst hc
   cases r <;> simp [quoF]
  ·rename_i h34
   split at h
   ·cases h
   ·rename_i hr
    split at h
    ·rename_i h92
     split at h
     ·rename_i hd
      obtain ⟨⟨m',t'⟩,h',hx⟩:=Option.map_eq_some_iff.1 h
      simp only [Prod.mk.injEq] at hx; obtain ⟨rfl,rfl⟩:=hx
      have ih:=quoF_cut r' r m' t' h'
      show quoF ((c :: d :: r').take (m' + 2) ++ r)=_
      rw [List.take_succ_cons,List.take_succ_cons,List.cons_append,List.cons_append,quoF,if_neg h34,if_neg hr,if_pos h92,if_pos hd,ih]
      rfl
     ·cases h
    ·rename_i h92
     obtain ⟨⟨m',t'⟩,h',hx⟩:=Option.map_eq_some_iff.1 h
     simp only [Prod.mk.injEq] at hx; obtain ⟨rfl,rfl⟩:=hx
     have ih:=quoF_cut (d :: r') r m' t' h'
     have hm:=(quoF_len _ _ _ h').1
     obtain ⟨k,rfl⟩:∃ k,m'=k + 1:=⟨m' - 1,by omega⟩
     show quoF ((c :: d :: r').take (k + 1 + 1) ++ r)=_
     rw [List.take_succ_cons,List.take_succ_cons,List.cons_append,List.cons_append,quoF,if_neg h34,if_neg hr,if_neg h92]
     rw [List.take_succ_cons,List.cons_append] at ih
     rw [ih]; rfl
theorem first_cut {l:List UInt8} {t:Tok} (r:List UInt8) (h:firstF l=.tok t) (hr:r=[] ∨ r.head?=some 32 ∨ r.head?=(l.drop t.len).head?):firstF (l.take t.len ++ r)=.tok t:=by
 have hl:=first_len h
 cases l with
 | nil => cases h
 | cons c l =>
  obtain ⟨k,hk⟩:∃ k,t.len=k + 1:=⟨t.len - 1,by omega⟩
  rw [first_cons] at h
  have e0:(c :: l).take t.len ++ r=c :: (l.take k ++ r):=by rw [hk,List.take_succ_cons,List.cons_append]
  split at h
  ·rename_i hd
   obtain ⟨h1,_⟩:=numT_tok h
   rw [e0]; rw [first_cons]; rw [if_pos hd,← e0,h1]
   rw [tw_cut digB (c :: l) r,h]
   rcases hr with hr | hr | hr
   ·exact .inl hr
   ·exact .inr (.inl ⟨32,hr,by decide⟩)
   ·exact .inr (.inr (by rw [← h1]; exact hr))
  ·rename_i hd
   split at h
   ·rename_i hw
    obtain ⟨h1,_⟩:=wordT_tok h
    have h2:t.len=((c :: l).takeWhile alnB).length:=by rw [h1]
    rw [e0]; rw [first_cons]; rw [if_neg hd,if_pos hw,← e0,h2]
    rw [tw_cut alnB (c :: l) r,h]
    rcases hr with hr | hr | hr
    ·exact .inl hr
    ·exact .inr (.inl ⟨32,hr,by decide⟩)
    ·exact .inr (.inr (by rw [← h2]; exact hr))
   ·rename_i hw
    split at h
    ·rename_i hq
     obtain ⟨m,u,h1,h2,rfl⟩:=quoT_tok h
     obtain rfl:m=k:=by simp at hk; exact hk
     rw [e0]; rw [first_cons]; rw [if_neg hd,if_neg hw,if_pos hq]
     unfold quoT
     rw [quoF_cut l r _ _ h1]
     simp; omega
    ·rename_i hq
     unfold sgnT at h
     split at h
     ·rename_i h2
      injection h with h; subst h
      obtain rfl:1=k:=by simp at hk; exact hk.symm
      rw [e0]; rw [first_cons]; rw [if_neg hd,if_neg hw,if_neg hq]
      unfold sgnT
      have e1:(l.take 1 ++ r).head?=some 61:=by
       cases l with
       | nil => simp at h2
       | cons d l => simpa using h2.2
      rw [if_pos ⟨h2.1,e1⟩]
     ·rename_i h2
      split at h
      ·rename_i h3
       injection h with h; subst h
       obtain rfl:0=k:=by simp at hk; exact hk.symm
       rw [e0]; rw [first_cons]; rw [if_neg hd,if_neg hw,if_neg hq]
       unfold sgnT
       rw [if_neg,if_pos h3]
       rintro ⟨g1,g2⟩
       refine h2 ⟨g1,?_⟩
       simp at g2
       rcases hr with hr | hr | hr
       ·subst hr; simp at g2
       ·rw [hr] at g2; simp at g2
       ·rw [hr] at g2; simpa using g2
      ·cases h
theorem toks_fuel:∀ (f g:Nat) (l:List UInt8) (p:Nat),l.length < f->l.length < g->toks f l p=toks g l p
 | 0,_,_,_,h,_ => absurd h (by omega)
 | _ + 1,0,_,_,_,h => absurd h (by omega)
 | f + 1,g + 1,[],p,_,_ => by simp [toks]
 | f + 1,g + 1,c :: r,p,hf,hg => by
  simp only [List.length_cons] at hf hg
  unfold toks
  split
  ·exact toks_fuel f g r (p + 1) (by omega) (by omega)
  ·split
   ·rfl
   ·rename_i t ht
    have:=first_len ht
    simp only [List.length_cons] at this
    rw [toks_fuel f g _ _ (by simp; omega) (by simp; omega)]
def tokens (l:List UInt8) (p:Nat):Res:=toks (l.length + 1) l p
theorem tokens_nil (p:Nat):tokens [] p=.ok []:=rfl
theorem tokens_space (r:List UInt8) (p:Nat):tokens (32 :: r) p=tokens r (p + 1):=by
 unfold tokens; rw [List.length_cons,toks,if_pos rfl]
theorem tokens_bad {c:UInt8} {r:List UInt8} {p:Nat} {e:Int} (hc:c ≠ 32) (h:firstF (c :: r)=.bad e):tokens (c :: r) p=.bad p e:=by
 unfold tokens; rw [List.length_cons,toks,if_neg hc,h]
theorem tokens_tok {c:UInt8} {r:List UInt8} {p:Nat} {t:Tok} (hc:c ≠ 32) (h:firstF (c :: r)=.tok t):tokens (c :: r) p=(tokens ((c :: r).drop t.len) (p + t.len)).cons (mk t p (c :: r)):=by
 have:=first_len h
 simp only [List.length_cons] at this
 unfold tokens; rw [List.length_cons,toks,if_neg hc,h]
 simp only
 rw [toks_fuel (r.length + 1) (((c :: r).drop t.len).length + 1) _ _ (by simp; omega) (by omega)]
theorem lexR_of {l:List UInt8} (h:l.length<=160):lexR l=fin [] (tokens l 0):=by unfold lexR tokens; rw [if_neg (by omega)]
theorem lexR_long {l:List UInt8} (h:160 < l.length):lexR l=([],0,1):=by unfold lexR; rw [if_pos h]
theorem tokens_ind {M:List UInt8->Nat->Res->Prop} (h0:∀ p,M [] p (.ok [])) (h1:∀ r p,M r (p + 1) (tokens r (p + 1))->M (32 :: r) p (tokens r (p + 1)))
  (h2:∀ c r p e,c ≠ 32->firstF (c :: r)=.bad e->M (c :: r) p (.bad p e))
  (h3:∀ c r p t,c ≠ 32->firstF (c :: r)=.tok t->M ((c :: r).drop t.len) (p + t.len) (tokens ((c :: r).drop t.len) (p + t.len))->M (c :: r) p ((tokens ((c :: r).drop t.len) (p + t.len)).cons (mk t p (c :: r)))) :
  ∀ (n:Nat) (l:List UInt8) (p:Nat),l.length<=n->M l p (tokens l p)
 | _,[],p,_ => h0 p
 | 0,c :: r,_,h => absurd h (by simp)
 | n + 1,c :: r,p,h => by
  simp only [List.length_cons] at h
  by_cases hc:c=32
  ·subst hc
   rw [tokens_space]
   exact h1 r p (tokens_ind h0 h1 h2 h3 n r (p + 1) (by omega))
  ·cases ht:firstF (c :: r) with
   | bad e => rw [tokens_bad hc ht]; exact h2 c r p e hc ht
   | tok t =>
    rw [tokens_tok hc ht]
    have:=first_len ht
    simp only [List.length_cons] at this
    exact h3 c r p t hc ht (tokens_ind h0 h1 h2 h3 n _ _ (by simp; omega))
theorem few (l:List UInt8) (p:Nat):∀ ts,tokens l p=.ok ts->ts.length<=l.length:=by
 refine tokens_ind (M:=fun l _ r => ∀ ts,r=.ok ts->ts.length<=l.length) ?_ ?_ ?_ ?_ l.length l p (Nat.le_refl _)
 ·intro p ts h; injection h with h; subst h; simp
 ·intro r p ih ts h; have:=ih ts h; simp; omega
 ·intro c r p e _ _ ts h; cases h
 ·intro c r p t hc ht ih ts h
  have hl:=first_len ht
  cases hr:tokens ((c :: r).drop t.len) (p + t.len) with
  | bad q e => rw [hr] at h; cases h
  | ok us =>
   rw [hr] at h; injection h with h; subst h
   have:=ih us hr
   simp only [List.length_cons,List.length_drop] at this hl ⊢
   omega
theorem cut_tok {c:UInt8} {r:List UInt8} {p:Nat} {t:Tok} (hc:c ≠ 32) (ht:firstF (c :: r)=.tok t) (u:List UInt8) (hu:u=[] ∨ u.head?=some 32 ∨ u.head?=((c :: r).drop t.len).head?) :
  tokens ((c :: r).take t.len ++ u) p=(tokens u (p + t.len)).cons (mk t p (c :: r)):=by
 have hl:=first_len ht
 simp only [List.length_cons] at hl
 have hc1:=first_cut u ht hu
 obtain ⟨j,hj⟩:∃ j,t.len=j + 1:=⟨t.len - 1,by omega⟩
 have e2:(c :: r).take t.len ++ u=c :: (r.take j ++ u):=by rw [hj,List.take_succ_cons,List.cons_append]
 have e3:((c :: r).take t.len).length=t.len:=by rw [List.length_take,List.length_cons]; omega
 rw [e2,tokens_tok hc (by rw [← e2]; exact hc1),← e2,List.drop_append_of_le_length (by omega),List.drop_eq_nil_of_le (by omega),List.nil_append]
 congr 1
 unfold mk
 rw [List.take_append_of_le_length (by omega),List.take_of_length_le (by omega)]
theorem wrong (l:List UInt8) (p:Nat):∀ q e,tokens l p=.bad q e->p<=q/\q < p + l.length/\(e=1 ∨ e=3 ∨ e=7)/\∃ ts,tokens (l.take (q - p)) p=.ok ts:=by
 refine tokens_ind (M:=fun l p r => ∀ q e,r=.bad q e->p<=q/\q < p + l.length/\(e=1 ∨ e=3 ∨ e=7)/\∃ ts,tokens (l.take (q - p)) p=.ok ts) ?_ ?_ ?_ ?_ l.length l p (Nat.le_refl _)
 ·intro p q e h; cases h
 ·intro r p ih q e h
  obtain ⟨h1,h2,h4,ts,h3⟩:=ih q e h
  refine ⟨by omega,by simp; omega,h4,ts,?_⟩
  obtain ⟨k,rfl⟩:∃ k,q=p + 1 + k:=⟨q - (p + 1),by omega⟩
  rw [show p + 1 + k - p=k + 1 by omega,List.take_succ_cons,tokens_space]
  rw [show p + 1 + k - (p + 1)=k by omega] at h3
  exact h3
 ·intro c r p e hc hb q e' h
  injection h with h h'
  subst h; subst h'
  refine ⟨Nat.le_refl _,by simp,?_,[],by rw [Nat.sub_self]; rfl⟩
  rw [first_cons] at hb
  unfold numT wordT quoT sgnT at hb
  repeat' split at hb
  all_goals (first | (injection hb with hb; omega) | cases hb)
 ·intro c r p t hc ht ih q e h
  have hl:=first_len ht
  cases hr:tokens ((c :: r).drop t.len) (p + t.len) with
  | ok us => rw [hr] at h; cases h
  | bad q' e' =>
   rw [hr] at h
   injection h with h h'
   subst h; subst h'
   obtain ⟨h1,h2,h4,ts,h3⟩:=ih q' e' hr
   simp only [List.length_cons,List.length_drop] at h2 hl
   refine ⟨by omega,by simp; omega,h4,mk t p (c :: r) :: ts,?_⟩
   obtain ⟨k,rfl⟩:∃ k,q'=p + t.len + k:=⟨q' - (p + t.len),by omega⟩
   have e1:(c :: r).take (p + t.len + k - p)=(c :: r).take t.len ++ ((c :: r).drop t.len).take k:=by
    rw [show p + t.len + k - p=t.len + k by omega,List.take_add]
   rw [show p + t.len + k - (p + t.len)=k by omega] at h3
   have hc1:=cut_tok (p:=p) hc ht (((c :: r).drop t.len).take k) (by
    cases k with
    | zero => exact .inl (by simp)
    | succ k =>
     refine .inr (.inr ?_)
     cases (c :: r).drop t.len <;> simp)
   rw [e1,hc1,h3]; rfl
def Tk.bare (x:Tk):Int × List UInt8 × Int × Int × List UInt8:=(x.kind,x.s,x.vk,x.n,x.t)
def nameB (l:List UInt8):Bool:=match l with | [] => false | c :: r => lowB c && r.all alnB
def keyB (l:List UInt8):Bool:=decide (l=[97,110,100]) || decide (l=[111,114]) || decide (l=[110,111,116]) || decide (l=[116,114,117,101]) || decide (l=[102,97,108,115,101]) || decide (l=[105,102]) || decide (l=[108,101,110])
theorem take_tw (p:UInt8->Bool):∀ l:List UInt8,l.take (l.takeWhile p).length=l.takeWhile p
 | [] => rfl
 | c :: l => by
  rw [List.takeWhile_cons]
  split
  ·rw [List.length_cons,List.take_succ_cons,take_tw p l]
  ·rfl
theorem tw_id (p:UInt8->Bool):∀ l:List UInt8,l.takeWhile p=l ↔ l.all p=true
 | [] => by simp
 | c :: l => by
  rw [List.takeWhile_cons,List.all_cons]
  by_cases h:p c=true
  ·rw [if_pos h,h,Bool.true_and,← tw_id p l]; simp
  ·rw [if_neg h]; simp [h]
end LexM
namespace ExM
open ValM LexM
structure Nd where
 op:Int
 k:Int
 n:Int
 s:ByteArray
 nm:ByteArray
inductive Ex where
 | mk (d:Nd) (args:List Ex)
def Ex.d:Ex->Nd | .mk d _ => d
def Ex.args:Ex->List Ex | .mk _ l => l
theorem Ex.ind {P:Ex->Prop} (h:∀ d l,(∀ x ∈ l,P x)->P (.mk d l)):∀ x,P x
 | .mk d l => h d l (go l)
where go:∀ l:List Ex,∀ x ∈ l,P x
 | [],_,hx => absurd hx (by simp)
 | y :: r,x,hx => by
  rcases List.mem_cons.1 hx with e | hx
  ·rw [e]; exact Ex.ind h y
  ·exact go r x hx
mutual
def Ex.nodes:Ex->Nat | .mk _ l => 1 + nodesL l
def nodesL:List Ex->Nat | [] => 0 | x :: l => x.nodes + nodesL l
end
mutual
def Ex.depth:Ex->Nat | .mk _ l => depthL l + 1
def depthL:List Ex->Nat | [] => 0 | x :: l => max x.depth (depthL l)
end
mutual
def Ex.pre:Ex->List (Nd × Nat) | .mk d l => (d,l.length) :: preL l
def preL:List Ex->List (Nd × Nat) | [] => [] | x :: l => x.pre ++ preL l
end
theorem nodes_mk (d:Nd) (l:List Ex):(Ex.mk d l).nodes=1 + nodesL l:=by simp [Ex.nodes]
theorem depth_mk (d:Nd) (l:List Ex):(Ex.mk d l).depth=depthL l + 1:=by simp [Ex.depth]
theorem pre_mk (d:Nd) (l:List Ex):(Ex.mk d l).pre=(d,l.length) :: preL l:=by simp [Ex.pre]
theorem nodesL_nil:nodesL []=0:=by simp [nodesL]
theorem depthL_nil:depthL []=0:=by simp [depthL]
theorem preL_nil:preL []=[]:=by simp [preL]
theorem nodesL_cons (x:Ex) (l:List Ex):nodesL (x :: l)=x.nodes + nodesL l:=by simp [nodesL]
theorem depthL_cons (x:Ex) (l:List Ex):depthL (x :: l)=max x.depth (depthL l):=by simp [depthL]
theorem preL_cons (x:Ex) (l:List Ex):preL (x :: l)=x.pre ++ preL l:=by simp [preL]
theorem nodesL_append (l m:List Ex):nodesL (l ++ m)=nodesL l + nodesL m:=by
 induction l with
 | nil => simp [nodesL_nil]
 | cons x l ih => rw [List.cons_append,nodesL_cons,nodesL_cons,ih]; omega
theorem depthL_append (l m:List Ex):depthL (l ++ m)=max (depthL l) (depthL m):=by
 induction l with
 | nil => simp [depthL_nil]
 | cons x l ih => rw [List.cons_append,depthL_cons,depthL_cons,ih]; omega
theorem preL_append (l m:List Ex):preL (l ++ m)=preL l ++ preL m:=by
 induction l with
 | nil => simp [preL_nil]
 | cons x l ih => rw [List.cons_append,preL_cons,preL_cons,ih,List.append_assoc]
theorem nodesL_snoc (l:List Ex) (x:Ex):nodesL (l ++ [x])=nodesL l + x.nodes:=by rw [nodesL_append,nodesL_cons,nodesL_nil]; omega
theorem depthL_snoc (l:List Ex) (x:Ex):depthL (l ++ [x])=max (depthL l) x.depth:=by rw [depthL_append,depthL_cons,depthL_nil]; omega
theorem nodes_pos (x:Ex):1<=x.nodes:=by cases x; rw [nodes_mk]; omega
theorem nodesL_take (l:List Ex) (i:Nat):nodesL (l.take i)<=nodesL l:=by
 have h:=nodesL_append (l.take i) (l.drop i)
 rw [List.take_append_drop] at h; omega
theorem depthL_take (l:List Ex) (i:Nat):depthL (l.take i)<=depthL l:=by
 have h:=depthL_append (l.take i) (l.drop i)
 rw [List.take_append_drop] at h; omega
theorem take_at {α:Type} (l:List α) (i:Nat) (h:i < l.length):l.take (i + 1)=l.take i ++ [l[i]]:=by
 rw [List.take_succ_eq_append_getElem h]
theorem nodesL_at (l:List Ex) (i:Nat) (h:i < l.length):nodesL (l.take (i + 1))=nodesL (l.take i) + l[i].nodes:=by rw [take_at l i h,nodesL_snoc]
theorem depthL_at (l:List Ex) (i:Nat) (h:i < l.length):depthL (l.take (i + 1))=max (depthL (l.take i)) l[i].depth:=by rw [take_at l i h,depthL_snoc]
theorem preL_at (l:List Ex) (i:Nat) (h:i < l.length):preL (l.take (i + 1))=preL (l.take i) ++ l[i].pre:=by rw [take_at l i h,preL_append,preL_cons,preL_nil,List.append_nil]
theorem nodes_mem {l:List Ex} {x:Ex} (h:x ∈ l):x.nodes<=nodesL l:=by
 induction l with
 | nil => simp at h
 | cons y l ih =>
  rw [nodesL_cons]
  rcases List.mem_cons.1 h with e | h
  ·rw [e]; omega
  ·have:=ih h; omega
theorem depth_mem {l:List Ex} {x:Ex} (h:x ∈ l):x.depth<=depthL l:=by
 induction l with
 | nil => simp at h
 | cons y l ih =>
  rw [depthL_cons]
  rcases List.mem_cons.1 h with e | h
  ·rw [e]; omega
  ·have:=ih h; omega
theorem len_nodesL (l:List Ex):l.length<=nodesL l:=by
 induction l with
 | nil => simp
 | cons x l ih => rw [nodesL_cons,List.length_cons]; have:=nodes_pos x; omega
theorem depth_le_nodes:∀ x:Ex,x.depth<=x.nodes:=by
 refine Ex.ind fun d l ih => ?_
 rw [depth_mk,nodes_mk]
 have:depthL l<=nodesL l:=by
  clear d
  induction l with
  | nil => simp [depthL_nil]
  | cons x l ihl =>
   rw [depthL_cons,nodesL_cons]
   have h1:=ih x (by simp)
   have h2:=ihl fun y hy => ih y (by simp [hy])
   omega
 omega
theorem pre_len:∀ x:Ex,x.pre.length=x.nodes:=by
 refine Ex.ind fun d l ih => ?_
 rw [pre_mk,nodes_mk,List.length_cons]
 have:(preL l).length=nodesL l:=by
  clear d
  induction l with
  | nil => simp [preL_nil,nodesL_nil]
  | cons x l ihl => rw [preL_cons,nodesL_cons,List.length_append,ih x (by simp),ihl fun y hy => ih y (by simp [hy])]
 omega
theorem preL_len (l:List Ex):(preL l).length=nodesL l:=by
 induction l with
 | nil => simp [preL_nil,nodesL_nil]
 | cons x l ihl => rw [preL_cons,nodesL_cons,List.length_append,pre_len,ihl]
def arity (op:Int):Nat:=if op=1 ∨ op=2 then 0 else if op=3 ∨ op=4 ∨ op=18 then 1 else if op=17 then 3 else 2
def nmB (l:List UInt8):Bool:=!l.isEmpty && decide (l.length<=10) && nameB l && !keyB l
def vOk (d:Nd):Bool:=if d.op=1 then knownB d.k d.n d.s.data.toList && !(decide (d.k=1) && decide (d.n < 0)) else decide (d.k=0) && decide (d.n=0) && d.s.data.toList.isEmpty
def nmOk (d:Nd):Bool:=if d.op=2 then nmB d.nm.data.toList else d.nm.data.toList.isEmpty
def nodeE (d:Nd) (m:Nat):Int:=if d.op < 1 ∨ 18 < d.op then 2 else if m=arity d.op/\vOk d=true/\nmOk d=true then 0 else 3
def firstE:List (Nd × Nat)->Int
 | [] => 0
 | (d,m) :: l => if nodeE d m=0 then firstE l else nodeE d m
def Ex.checkE (x:Ex):Int:=if 60 < x.nodes then 1 else if 12 < x.depth then 4 else firstE x.pre
theorem firstE_cons (d:Nd) (m:Nat) (l:List (Nd × Nat)):firstE ((d,m) :: l)=if nodeE d m=0 then firstE l else nodeE d m:=rfl
theorem firstE_append (l m:List (Nd × Nat)):firstE (l ++ m)=if firstE l=0 then firstE m else firstE l:=by
 induction l with
 | nil => simp [firstE]
 | cons x l ih =>
  obtain ⟨d,j⟩:=x
  rw [List.cons_append,firstE_cons,firstE_cons,ih]
  by_cases h:nodeE d j=0
  ·rw [if_pos h,if_pos h]
  ·rw [if_neg h,if_neg h,if_neg h]
theorem firstE_mk (d:Nd) (l:List Ex):firstE (Ex.mk d l).pre=if nodeE d l.length=0 then firstE (preL l) else nodeE d l.length:=by rw [pre_mk,firstE_cons]
def Ex.okN (x:Ex):Prop:=firstE x.pre=0
theorem okN_mk (d:Nd) (l:List Ex):(Ex.mk d l).okN ↔ nodeE d l.length=0/\∀ x ∈ l,x.okN:=by
 unfold Ex.okN
 rw [firstE_mk]
 by_cases h:nodeE d l.length=0
 ·rw [if_pos h]
  simp only [h,true_and]
  induction l generalizing d with
  | nil => simp [preL_nil,firstE]
  | cons x l ih =>
   rw [preL_cons,firstE_append]
   by_cases hx:firstE x.pre=0
   ·rw [if_pos hx]
    have:firstE (preL l)=0 ↔ ∀ y ∈ l,firstE y.pre=0:=by
     clear ih h
     induction l with
     | nil => simp [preL_nil,firstE]
     | cons z l ihl =>
      rw [preL_cons,firstE_append]
      by_cases hz:firstE z.pre=0
      ·rw [if_pos hz,ihl]; simp [hz]
      ·rw [if_neg hz]; simp [hz]
    rw [this]; simp [hx]
   ·rw [if_neg hx]; simp [hx]
 ·rw [if_neg h]; simp [h]
theorem checkE_ok {x:Ex} (h1:x.nodes<=60) (h2:x.depth<=12):x.checkE=firstE x.pre:=by
 unfold Ex.checkE; rw [if_neg (by omega),if_neg (by omega)]
theorem checkE_zero {x:Ex} (h:x.checkE=0):x.nodes<=60/\x.depth<=12/\x.okN:=by
 unfold Ex.checkE at h
 by_cases h1:60 < x.nodes
 ·rw [if_pos h1] at h; exact absurd h (by decide)
 ·rw [if_neg h1] at h
  by_cases h2:12 < x.depth
  ·rw [if_pos h2] at h; exact absurd h (by decide)
  ·rw [if_neg h2] at h; exact ⟨by omega,by omega,h⟩
end ExM
namespace ShowM
open ValM
def escL (l:List UInt8):List UInt8:=l.flatMap fun c => if c=34 ∨ c=92 then [92,c] else [c]
def quoteL (l:List UInt8):List UInt8:=34 :: (escL l ++ [34])
def showL (k n:Int) (l:List UInt8):List UInt8 :=
 if k=2 then Lib.formatBool (decide (n=1)) else if k=3 then quoteL l else if k=4 then [63] else if k=5 then 33 :: Lib.itoa n else Lib.itoa n
theorem escL_snoc (l:List UInt8) (c:UInt8):escL (l ++ [c])=escL l ++ (if c=34 ∨ c=92 then [92,c] else [c]):=by
 unfold escL; rw [List.flatMap_append]; simp
theorem escL_len (l:List UInt8):(escL l).length<=2 * l.length:=by
 induction l with
 | nil => simp [escL]
 | cons c l ih =>
  have:escL (c :: l)=(if c=34 ∨ c=92 then [92,c] else [c]) ++ escL l:=by unfold escL; rw [List.flatMap_cons]
  rw [this,List.length_append,List.length_cons]
  split <;> simp <;> omega
theorem escL_step (s:ByteArray) (k:Nat) (h:k < s.size):escL (s.data.toList.take (k + 1))=escL (s.data.toList.take k) ++ (if s[k]=34 ∨ s[k]=92 then [92,s[k]] else [s[k]]):=by
 rw [take_snoc s k h,escL_snoc]
theorem escL_all (s:ByteArray) (k:Nat) (h:s.size<=k):escL (s.data.toList.take k)=escL s.data.toList:=by
 rw [List.take_of_length_le (by simpa using h)]
theorem byte_eq (c:UInt8) (n:Nat) (hn:n < 256):c=UInt8.ofNat n ↔ c.toNat=n:=by
 rw [← UInt8.toNat_inj,UInt8.toNat_ofNat',Nat.mod_eq_of_lt (by simpa using hn)]
theorem cells_snoc (l:List UInt8) (c:UInt8):Lib.byteCells l ++ [Value.int .u8 c.toNat]=Lib.byteCells (l ++ [c]):=by simp [Lib.byteCells]
theorem len_take (s:ByteArray) (k:Nat) (h:s.size<=1000):(Lib.byteCells (34 :: escL (s.data.toList.take k))).length<=2001:=by
 rw [Lib.byteCells_length,List.length_cons]
 have:=escL_len (s.data.toList.take k)
 have h2:(s.data.toList.take k).length<=s.size:=by rw [List.length_take,len_size]; omega
 omega
end ShowM
namespace ParseM
open ValM ShowM NumM
def unq:List UInt8->List UInt8
 | [] => []
 | [c] => if c=34 then [] else [c]
 | c :: d :: r => if c=34 then [] else if c=92 then d :: unq r else c :: unq (d :: r)
theorem unq_esc:∀ l:List UInt8,unq (escL l ++ [34])=l
 | [] => rfl
 | c :: l => by
  have e:escL (c :: l)=(if c=34 ∨ c=92 then [92,c] else [c]) ++ escL l:=by unfold escL; rw [List.flatMap_cons]
  rw [e]
  by_cases h:c=34 ∨ c=92
  ·rw [if_pos h]
   show unq (92 :: c :: (escL l ++ [34]))=c :: l
   rw [unq,if_neg (by decide),if_pos rfl,unq_esc l]
  ·rw [if_neg h]
   have h1:c ≠ 34:=fun g => h (.inl g)
   have h2:c ≠ 92:=fun g => h (.inr g)
   obtain ⟨d,r,hd⟩:∃ d r,escL l ++ [34]=d :: r:=by
    cases hh:escL l ++ [34] with
    | nil => simp at hh
    | cons d r => exact ⟨d,r,rfl⟩
   show unq (c :: (escL l ++ [34]))=c :: l
   rw [hd,unq,if_neg h1,if_neg h2,← hd,unq_esc l]
theorem drop_cons (s:ByteArray) (k:Nat) (h:k < s.size):s.data.toList.drop k=s[k] :: s.data.toList.drop (k + 1):=by
 rw [List.drop_eq_getElem_cons (show k < s.data.toList.length by rw [len_size]; exact h)]; rfl
theorem unq_step1 (s:ByteArray) (k:Nat) (h:k < s.size) (h1:s[k] ≠ 34) (h2:¬ (s[k]=92/\k + 1 < s.size)):unq (s.data.toList.drop k)=s[k] :: unq (s.data.toList.drop (k + 1)):=by
 rw [drop_cons s k h]
 by_cases g:k + 1 < s.size
 ·rw [drop_cons s (k + 1) g,unq,if_neg h1,if_neg (fun e => h2 ⟨e,g⟩)]
 ·rw [List.drop_eq_nil_of_le (by rw [len_size]; omega),show unq ([]:List UInt8)=[] from rfl]
  unfold unq; rw [if_neg h1]
theorem unq_step2 (s:ByteArray) (k:Nat) (h:k + 1 < s.size) (h1:s[k]=92):unq (s.data.toList.drop k)=s[k + 1] :: unq (s.data.toList.drop (k + 2)):=by
 rw [drop_cons s k (by omega),drop_cons s (k + 1) h,unq,if_neg (by rw [h1]; decide),if_pos h1]
theorem unq_stop (s:ByteArray) (k:Nat) (h:s.size<=k):unq (s.data.toList.drop k)=[]:=by
 rw [List.drop_eq_nil_of_le (by rw [len_size]; omega)]; rfl
theorem unq_quote (s:ByteArray) (k:Nat) (h:k < s.size) (h1:s[k]=34):unq (s.data.toList.drop k)=[]:=by
 rw [drop_cons s k h]
 cases hd:s.data.toList.drop (k + 1) with
 | nil => rw [unq,if_pos h1]
 | cons d r => rw [unq,if_pos h1]
theorem decFrom_append:∀ (l m:List UInt8) (acc n:Nat),Lib.decFrom acc l=some n->Lib.decFrom acc (l ++ m)=Lib.decFrom n m
 | [],m,acc,n,h => by
  simp only [Lib.decFrom,Option.some.injEq] at h
  subst h; rfl
 | c :: l,m,acc,n,h => by
  rw [List.cons_append]
  change (match Lib.digitVal c with | some d => Lib.decFrom (acc * 10 + d) l | none => none)=some n at h
  show (match Lib.digitVal c with | some d => Lib.decFrom (acc * 10 + d) (l ++ m) | none => none)=Lib.decFrom n m
  cases hd:Lib.digitVal c with
  | none => rw [hd] at h; simp at h
  | some d =>
   rw [hd] at h
   exact decFrom_append l m _ n h
theorem digit_of (d:Nat) (h:d < 10):Lib.digitVal (UInt8.ofNat (48 + d))=some d:=by
 have:∀ d:Fin 10,Lib.digitVal (UInt8.ofNat (48 + d.val))=some d.val:=by decide
 exact this ⟨d,h⟩
theorem decFrom_dec (u:Nat):Lib.decFrom 0 (Lib.decDigits u)=some u:=by
 induction u using Nat.strongRecOn with
 | _ u ih =>
  by_cases h:u < 10
  ·rw [Lib.decDigits_one h]
   unfold Lib.decFrom
   rw [digit_of u h]
   simp [Lib.decFrom]
  ·rw [Lib.decDigits,dif_neg h,decFrom_append _ _ _ _ (ih (u / 10) (by omega))]
   unfold Lib.decFrom
   rw [digit_of _ (by omega)]
   simp [Lib.decFrom]
   omega
theorem dec_ne (u:Nat):Lib.decDigits u ≠ []:=fun h => by
 have:=Lib.decDigits_length u
 rw [h] at this
 have:=Lib.nDigits_pos u
 simp at *
 omega
theorem decNat_dec (u:Nat):Lib.decNat (Lib.decDigits u)=some u:=by
 have h:=decFrom_dec u
 unfold Lib.decNat
 cases hd:Lib.decDigits u with
 | nil => exact absurd hd (dec_ne u)
 | cons c r => rw [hd] at h; simpa using h
theorem dec_head (u:Nat):∃ c r,Lib.decDigits u=c :: r/\48<=c.toNat/\c.toNat<=57:=by
 cases hd:Lib.decDigits u with
 | nil => exact absurd hd (dec_ne u)
 | cons c r =>
  refine ⟨c,r,rfl,?_⟩
  have h:=decFrom_dec u
  obtain ⟨d,hdg⟩:=Lib.digit_of_decFrom _ _ _ h 0 c (by rw [hd]; rfl)
  have:=Lib.digitVal_eq hdg
  exact ⟨this.1,this.2.1⟩
theorem atoi_itoa (n:Int):Lib.atoi (Lib.itoa n)=some n:=by
 by_cases h:n < 0
 ·have e:Lib.itoa n=45 :: Lib.decDigits n.natAbs:=by unfold Lib.itoa; rw [if_pos h]
  rw [e]
  unfold Lib.atoi
  simp [decNat_dec]
  omega
 ·have e:Lib.itoa n=Lib.decDigits n.toNat:=by unfold Lib.itoa; rw [if_neg h]
  rw [e]
  obtain ⟨c,r,hc,h1,h2⟩:=dec_head n.toNat
  have hd:=decNat_dec n.toNat
  rw [hc] at hd ⊢
  show (if (c == 45)=true then Option.map (fun (m:Nat) => -(m:Int)) (Lib.decNat r) else if (c == 43)=true then Option.map (fun (m:Nat) => (m:Int)) (Lib.decNat r) else Option.map (fun (m:Nat) => (m:Int)) (Lib.decNat (c :: r)))=some n
  have e1:(c == 45)=false:=by rw [beq_eq_false_iff_ne]; rintro rfl; simp at h1
  have e2:(c == 43)=false:=by rw [beq_eq_false_iff_ne]; rintro rfl; simp at h1
  rw [e1,e2]
  simp only [Bool.false_eq_true,if_false]
  rw [hd]
  simp
  omega
theorem itoa_short (n:Int) (h1:-1099511627776<=n) (h2:n<=1099511627776):(Lib.itoa n).length<=18:=by
 have hd:∀ u:Nat,u<=1099511627776->(Lib.decDigits u).length<=13:=fun u hu => by
  rw [Lib.decDigits_length]
  by_cases g:Lib.nDigits u<=13
  ·exact g
  ·exfalso
   have hp:∀ k u:Nat,Lib.nDigits u=k + 1->10 ^ k<=u ∨ k=0:=by
    intro k
    induction k with
    | zero => intro u _; exact .inr rfl
    | succ k ih =>
     intro u hn
     left
     by_cases hu:u < 10
     ·rw [Lib.nDigits_small hu] at hn; omega
     ·rw [Lib.nDigits_big hu] at hn
      rcases ih (u / 10) (by omega) with g | g
      ·rw [Nat.pow_succ]; omega
      ·subst g; omega
   obtain ⟨k,hk⟩:∃ k,Lib.nDigits u=k + 1:=⟨Lib.nDigits u - 1,by have:=Lib.nDigits_pos u; omega⟩
   rcases hp k u hk with g1 | g1
   ·have:10 ^ 13<=10 ^ k:=Nat.pow_le_pow_right (by decide) (by omega)
    omega
   ·omega
 unfold Lib.itoa
 by_cases h:n < 0
 ·rw [if_pos h,List.length_cons]; have:=hd n.natAbs (by omega); omega
 ·rw [if_neg h]; have:=hd n.toNat (by omega); omega
theorem atoiAll_itoa (n:Int) (h1:-1099511627776<=n) (h2:n<=1099511627776):Lib.atoiAll (Lib.itoa n)=.ok n:=by
 rw [Lib.atoiAll_short _ (itoa_short n h1 h2),atoi_itoa]; rfl
def numF (k:Int) (l:List UInt8):Option (Int × Int × List UInt8):=match Lib.atoiAll l with | .ok n => some (k,n,[]) | _ => none
def trueL:List UInt8:=[116,114,117,101]
def falseL:List UInt8:=[102,97,108,115,101]
def candF (l:List UInt8):Option (Int × Int × List UInt8) :=
 if l=trueL then some (2,1,[]) else if l=falseL then some (2,0,[]) else if l=[63] then some (4,0,[])
 else if l.head?=some 34 then some (3,0,unq l.tail) else if l.head?=some 33 then numF 5 l.tail else numF 1 l
theorem itoa_head (n:Int):∃ c r,Lib.itoa n=c :: r/\(c=45 ∨ (48<=c.toNat/\c.toNat<=57)):=by
 unfold Lib.itoa
 by_cases h:n < 0
 ·rw [if_pos h]; exact ⟨_,_,rfl,.inl rfl⟩
 ·rw [if_neg h]; obtain ⟨c,r,hc,h1⟩:=dec_head n.toNat; exact ⟨c,r,hc,.inr h1⟩
theorem head_ne {c d:UInt8} (h:c=45 ∨ (48<=c.toNat/\c.toNat<=57)) (hd:d=116 ∨ d=102 ∨ d=63 ∨ d=34 ∨ d=33):c ≠ d:=by
 rintro rfl
 rcases h with h | ⟨h1,h2⟩
 ·subst h; revert hd; decide
 ·rcases hd with rfl | rfl | rfl | rfl | rfl <;> simp at h1 h2
theorem cand_num {c:UInt8} {r:List UInt8} (h:c=45 ∨ (48<=c.toNat/\c.toNat<=57)):candF (c :: r)=numF 1 (c :: r):=by
 have h1:=head_ne (d:=116) h (by decide)
 have h2:=head_ne (d:=102) h (by decide)
 have h3:=head_ne (d:=63) h (by decide)
 have h4:=head_ne (d:=34) h (by decide)
 have h5:=head_ne (d:=33) h (by decide)
 unfold candF trueL falseL
 rw [if_neg (by intro e; injection e with e _; exact h1 e),if_neg (by intro e; injection e with e _; exact h2 e),if_neg (by intro e; injection e with e _; exact h3 e),
  if_neg (by simpa using h4),if_neg (by simpa using h5)]
theorem cand_show {k n:Int} {l:List UInt8} (h1:numE k n=0) (h2:strE k l=0):candF (showL k n l)=some (k,n,l):=by
 have hl:k ≠ 3->l=[]:=fun hk => by
  rw [strE_other hk] at h2
  by_cases e:l=[]
  ·exact e
  ·rw [if_neg e] at h2; omega
 unfold numE at h1
 by_cases k1:k=1
 ·subst k1
  rw [hl (by decide)]
  rw [if_pos rfl] at h1
  have ho:okN n=true:=by by_cases g:okN n=true; exact g; rw [if_neg g] at h1; omega
  obtain ⟨b1,b2⟩:=okN_iff.1 ho
  have e:showL 1 n []=Lib.itoa n:=by simp [showL]
  rw [e]
  obtain ⟨c,r,hc,hh⟩:=itoa_head n
  rw [hc,cand_num hh,← hc]
  unfold numF
  rw [atoiAll_itoa n b1 b2]
 ·rw [if_neg k1] at h1
  by_cases k2:k=2
  ·subst k2
   rw [hl (by decide)]
   rw [if_pos rfl] at h1
   have hn:n=0 ∨ n=1:=by
    by_cases g:0<=n/\n<=1
    ·omega
    ·rw [if_neg g] at h1; omega
   rcases hn with rfl | rfl
   ·decide
   ·decide
  ·rw [if_neg k2] at h1
   by_cases k3:k=3 ∨ k=4
   ·rw [if_pos k3] at h1
    have hn:n=0:=by by_cases g:n=0; exact g; rw [if_neg g] at h1; omega
    subst hn
    rcases k3 with rfl | rfl
    ·have e:showL 3 0 l=34 :: (escL l ++ [34]):=by simp [showL,quoteL]
     rw [e]
     unfold candF
     rw [if_neg (by intro e; injection e with e _; revert e; decide),if_neg (by intro e; injection e with e _; revert e; decide),if_neg (by intro e; injection e with e _; revert e; decide),if_pos (show (34 :: (escL l ++ [34])).head?=some 34 from rfl)]
     simp [unq_esc]
    ·rw [hl (by decide)]; decide
   ·rw [if_neg k3] at h1
    by_cases k5:k=5
    ·subst k5
     rw [hl (by decide)]
     rw [if_pos rfl] at h1
     have hn:1<=n/\n<=15:=by
      by_cases g:1<=n/\n<=15
      ·exact g
      ·rw [if_neg g] at h1; omega
     have e:showL 5 n []=33 :: Lib.itoa n:=by simp [showL]
     rw [e]
     unfold candF
     rw [if_neg (by intro e; injection e with e _; revert e; decide),if_neg (by intro e; injection e with e _; revert e; decide),if_neg (by intro e; injection e with e _; revert e; decide),if_neg (by simp),if_pos (show (33 :: Lib.itoa n).head?=some 33 from rfl)]
     unfold numF
     rw [List.tail_cons,atoiAll_itoa n (by omega) (by omega)]
    ·rw [if_neg k5] at h1; omega
end ParseM
namespace NotTab
open Go.ChangeShapes Go.WideShapes
abbrev Rw:=List UInt8 × Int × Int
def rowD {H:Type} (z:Rw):DataW H:=.agg [.lit (.string z.1),.lit (.int .i64 z.2.1),.lit (.int .i64 z.2.2)]
def rowC (z:Rw):List Value:=[.string ⟨z.1.toArray⟩,.int .i64 z.2.1,.int .i64 z.2.2]
def datum {H:Type} (zs:List Rw):DataW H:=.agg (zs.map rowD)
def Is (P:Program) (w:World) (name:String) (zs:List Rw):Prop:=w.var? P name=some (zs.flatMap rowC).toArray
theorem len3 {α:Type} {l:List α} (h:l.length=3):∃ a b c,l=[a,b,c]:=by
 match l,h with
 | [a,b,c],_ => exact ⟨a,b,c,rfl⟩
theorem row_of {H:Type} {enc:TypeId × Value->H} {P:Program} {w:World} {base:Nat} {sp:Nat->Bool} {held:Bool} {fuel:Nat} {e:TypeId} {f0 f1 f2:Field} {cs:List Value} {z:Rw} {p:List MemPlace}
  (he:P.underlying e=some (.struct #[f0,f1,f2])) (hce:P.cellsOf e=3) (o0:f0.offset=0) (o1:f1.offset=1) (o2:f2.offset=2) (u0:P.underlying f0.type=some .string) (u1:P.underlying f1.type=some (.int .i64)) (u2:P.underlying f2.type=some (.int .i64))
  (c0:P.cellsOf f0.type=1) (c1:P.cellsOf f1.type=1) (c2:P.cellsOf f2.type=1)
  (h:DataW.trod enc P w base sp held fuel e cs=some (rowD z,p)):cs=rowC z:=by
 obtain ⟨xs,n,_,hx,hl,hxl,hf⟩:=DataW.trod_struct he h
 rw [hce] at hl
 obtain ⟨a,b,c,rfl⟩:=len3 hl
 obtain ⟨y0,y1,y2,rfl⟩:=len3 (show xs.length=3 from hxl)
 have g0:=hf 0 f0 rfl
 have g1:=hf 1 f1 rfl
 have g2:=hf 2 f2 rfl
 rw [o0,c0] at g0
 rw [o1,c1] at g1
 rw [o2,c2] at g2
 obtain ⟨s,e0,d0,_⟩:=DataW.trod_string u0 g0
 obtain ⟨i,e1,d1,_⟩:=DataW.trod_int u1 g1
 obtain ⟨j,e2,d2,_⟩:=DataW.trod_int u2 g2
 have hx1:=congrArg Prod.fst hx
 simp only [rowD,List.map_cons,List.map_nil,d0,d1,d2,DataW.agg.injEq,List.cons.injEq,DataW.lit.injEq,Lit.string.injEq,Lit.int.injEq,true_and,and_true] at hx1
 obtain ⟨h1,h2,h3⟩:=hx1
 simp at e0 e1 e2
 subst e0 e1 e2
 simp [rowC,h1,h2,h3]
theorem flat_at (zs:List Rw):∀ (i:Nat) (z:Rw),zs[i]?=some z->∀ j,j < 3->(zs.flatMap rowC)[i * 3 + j]?=(rowC z)[j]?:=by
 induction zs with
 | nil => intro i z h; simp at h
 | cons y zs ih =>
  intro i z h j hj
  rw [List.flatMap_cons]
  cases i with
  | zero =>
   simp at h; subst h
   rw [List.getElem?_append_left (by simp [rowC]; omega)]; simp
  | succ i =>
   rw [List.getElem?_append_right (by simp [rowC]; omega),show (i + 1) * 3 + j - (rowC y).length=i * 3 + j by simp [rowC]; omega]
   exact ih i z (by simpa using h) j hj
theorem flat_len (zs:List Rw):(zs.flatMap rowC).length=zs.length * 3:=by
 induction zs with
 | nil => rfl
 | cons y zs ih => rw [List.flatMap_cons,List.length_append,ih,List.length_cons]; show 3 + _=_; omega
theorem cells_of {H:Type} {enc:TypeId × Value->H} {P:Program} {w:World} {base:Nat} {sp:Nat->Bool} {held:Bool} {fuel:Nat} {t e:TypeId} {f0 f1 f2:Field} {n:Nat} {cs:List Value} {zs:List Rw} {p:List MemPlace}
  (ht:P.underlying t=some (.array n e)) (hct:P.cellsOf t=n * 3)
  (he:P.underlying e=some (.struct #[f0,f1,f2])) (hce:P.cellsOf e=3) (o0:f0.offset=0) (o1:f1.offset=1) (o2:f2.offset=2) (u0:P.underlying f0.type=some .string) (u1:P.underlying f1.type=some (.int .i64)) (u2:P.underlying f2.type=some (.int .i64))
  (c0:P.cellsOf f0.type=1) (c1:P.cellsOf f1.type=1) (c2:P.cellsOf f2.type=1)
  (h:DataW.trod enc P w base sp held fuel t cs=some (datum zs,p)):cs=zs.flatMap rowC:=by
 cases fuel with
 | zero => simp [DataW.trod] at h
 | succ fuel =>
  simp only [DataW.trod,ht,hce,hct] at h
  split at h
  ·rename_i hl
   obtain ⟨xs,hm,hx⟩:=Option.map_eq_some_iff.1 h
   have hxs:xs.map (·.1)=zs.map (rowD (H:=H)):=by
    have:=congrArg Prod.fst hx
    simpa [datum] using this
   have hxl:xs.length=n:=by simpa using Lib.mapM_length hm
   have hzl:zs.length=n:=by
    have:=congrArg List.length hxs
    simp at this
    omega
   apply List.ext_getElem?
   intro q
   by_cases hq:q < n * 3
   ·obtain ⟨i,j,hj,rfl⟩:∃ i j,j < 3/\q=i * 3 + j:=⟨q / 3,q % 3,Nat.mod_lt _ (by omega),by omega⟩
    have hi:i < n:=by omega
    obtain ⟨b,hb,hf⟩:=Lib.mapM_at hm i i (by simp [hi])
    have hz:zs[i]?=some zs[i]:=List.getElem?_eq_getElem (by omega)
    have h2:(xs.map (·.1))[i]?=some b.1:=by simp [hb]
    rw [hxs,List.getElem?_map,hz] at h2
    simp only [Option.map_some,Option.some.injEq] at h2
    obtain ⟨b1,b2⟩:=b
    simp only at h2
    subst h2
    have hr:=row_of he hce o0 o1 o2 u0 u1 u2 c0 c1 c2 hf
    rw [flat_at zs i _ hz j hj,← hr,List.getElem?_take,if_pos hj,List.getElem?_drop]
   ·rw [List.getElem?_eq_none (by omega),List.getElem?_eq_none (by rw [flat_len]; omega)]
  ·cases h
theorem is_of_head {P:Program} {W:World} {name:String} {zs:List Rw} {rest:List (String × DataW Unit)} {g:Nat} {t e:TypeId} {f0 f1 f2:Field} {n:Nat}
  (hg:P.globalNamed name=some g) (hty:(P.globals[g]?).map (·.type)=some t) (ht:P.underlying t=some (.array n e)) (hct:P.cellsOf t=n * 3)
  (he:P.underlying e=some (.struct #[f0,f1,f2])) (hce:P.cellsOf e=3) (o0:f0.offset=0) (o1:f1.offset=1) (o2:f2.offset=2) (u0:P.underlying f0.type=some .string) (u1:P.underlying f1.type=some (.int .i64)) (u2:P.underlying f2.type=some (.int .i64))
  (c0:P.cellsOf f0.type=1) (c1:P.cellsOf f1.type=1) (c2:P.cellsOf f2.type=1)
  (h:laidMet P ((name,datum zs) :: rest) W):Is P W name zs:=by
 obtain ⟨ps,⟨g',t',cs,fuel,p,q,hg',ht',hvar,hd,_,_⟩,_⟩:=h
 obtain rfl:=Option.some.inj (hg.symm.trans hg')
 obtain rfl:=Option.some.inj (hty.symm.trans ht')
 unfold Is
 rw [hvar,← cells_of ht hct he hce o0 o1 o2 u0 u1 u2 c0 c1 c2 hd]
theorem Is.cell {P:Program} {W:World} {name:String} {zs:List Rw} {g:Nat} (h:Is P W name zs) (hg:P.globalNamed name=some g) (i:Nat) (z:Rw) (hi:zs[i]?=some z) :
  W.cell? ⟨g,i * 3,none⟩=some (.string ⟨z.1.toArray⟩)/\W.cell? ⟨g,i * 3 + 1,none⟩=some (.int .i64 z.2.1)/\W.cell? ⟨g,i * 3 + 2,none⟩=some (.int .i64 z.2.2):=by
 have f:=fun j hj => flat_at zs i z hi j hj
 refine ⟨?_,?_,?_⟩
 ·have:=World.var?_cell hg h (i * 3)
  rw [this]; simpa [rowC] using f 0 (by omega)
 ·have:=World.var?_cell hg h (i * 3 + 1)
  rw [this]; simpa [rowC] using f 1 (by omega)
 ·have:=World.var?_cell hg h (i * 3 + 2)
  rw [this]; simpa [rowC] using f 2 (by omega)
def rows:List Rw:=[([],0,0),([],6,0),([],6,0),([45],5,1),([110,111,116],5,1),([42],4,2),([47],4,2),([37],4,2),([43],3,2),([45],3,2),([38],3,2),([60],2,2),([60,61],2,2),([61],2,2),([33,61],2,2),([97,110,100],1,2),([111,114],0,2),([105,102],6,3),([108,101,110],6,1)]
end NotTab
namespace PrM
open ValM LexM ExM ShowM
def rwF (op:Int):NotTab.Rw:=NotTab.rows.getD op.toNat ([],0,0)
def precF (op:Int):Int:=(rwF op).2.1
def signF (op:Int):List UInt8:=(rwF op).1
def br (p:Int) (t:Int × List UInt8):List UInt8:=if precF t.1 < p then 40 :: (t.2 ++ [41]) else t.2
def commas:List (List UInt8)->List UInt8
 | [] => []
 | [a] => a
 | a :: r => a ++ ([44,32] ++ commas r)
def arg (ts:List (Int × List UInt8)) (i:Nat):Int × List UInt8:=ts.getD i (0,[])
def leftF (op:Int):Int:=if precF op=2 then precF op + 1 else precF op
def txtF (d:Nd) (ts:List (Int × List UInt8)):List UInt8 :=
 if d.op=1 then showL d.k d.n d.s.data.toList
 else if d.op=2 then d.nm.data.toList
 else if precF d.op=6 then signF d.op ++ (40 :: (commas (ts.map (·.2)) ++ [41]))
 else if d.op=4 then signF d.op ++ (32 :: br 5 (arg ts 0))
 else if precF d.op=5 then signF d.op ++ br 5 (arg ts 0)
 else br (leftF d.op) (arg ts 0) ++ (32 :: (signF d.op ++ (32 :: br (precF d.op + 1) (arg ts 1))))
mutual
def Ex.txt:Ex->List UInt8 | .mk d l => txtF d (txtL l)
def txtL:List Ex->List (Int × List UInt8) | [] => [] | x :: l => (x.d.op,Ex.txt x) :: txtL l
end
theorem txt_mk (d:Nd) (l:List Ex):Ex.txt (.mk d l)=txtF d (txtL l):=by simp [Ex.txt]
theorem txtL_cons (x:Ex) (l:List Ex):txtL (x :: l)=(x.d.op,Ex.txt x) :: txtL l:=by simp [txtL]
theorem txtL_map (l:List Ex):txtL l=l.map fun x => (x.d.op,Ex.txt x):=by
 induction l with
 | nil => simp [txtL]
 | cons x l ih => rw [txtL_cons,ih]; rfl
theorem txtL_at (l:List Ex) (i:Nat) (h:i < l.length):arg (txtL l) i=(l[i].d.op,Ex.txt l[i]):=by
 unfold arg
 rw [txtL_map,List.getD_eq_getElem?_getD,List.getElem?_map,List.getElem?_eq_getElem h]; rfl
theorem show_len {k n:Int} {l:List UInt8} (h:knownB k n l=true):(showL k n l).length<=100:=by
 unfold knownB isT at h
 simp only [Bool.and_eq_true,Bool.or_eq_true,decide_eq_true_eq] at h
 obtain ⟨ht,hv⟩:=h
 unfold valE at hv
 by_cases hn:numE k n=0
 ·rw [if_pos hn] at hv
  unfold showL
  rcases ht with (rfl | rfl) | rfl
  ·rw [if_neg (by decide),if_neg (by decide),if_neg (by decide),if_neg (by decide)]
   unfold numE at hn
   rw [if_pos rfl] at hn
   cases hb:NumM.okN n
   ·rw [hb] at hn; simp at hn
   ·have:=NumM.okN_iff.1 hb
    have:=ParseM.itoa_short n this.1 this.2
    omega
  ·rw [if_pos rfl]
   cases decide (n=1) <;> decide
  ·rw [if_neg (by decide),if_pos rfl]
   unfold strE at hv
   rw [if_pos rfl] at hv
   by_cases h40:40 < l.length
   ·rw [if_pos h40] at hv; exact absurd hv (by decide)
   ·have:=escL_len l
    unfold quoteL
    simp
    omega
 ·rw [if_neg hn] at hv; exact absurd hv hn
theorem rwF_len (op:Int):(signF op).length<=3:=by
 unfold signF rwF
 rcases Nat.lt_or_ge op.toNat 19 with h | h
 ·obtain h | h | h | h | h | h | h | h | h | h | h | h | h | h | h | h | h | h | h:op.toNat=0 ∨ op.toNat=1 ∨ op.toNat=2 ∨ op.toNat=3 ∨ op.toNat=4 ∨ op.toNat=5 ∨ op.toNat=6 ∨ op.toNat=7 ∨ op.toNat=8 ∨ op.toNat=9 ∨ op.toNat=10 ∨ op.toNat=11 ∨ op.toNat=12 ∨ op.toNat=13 ∨ op.toNat=14 ∨ op.toNat=15 ∨ op.toNat=16 ∨ op.toNat=17 ∨ op.toNat=18:=by omega
  all_goals rw [h]; decide
 ·rw [List.getD_eq_getElem?_getD,List.getElem?_eq_none (by show NotTab.rows.length<=_; exact h)]; decide
def sumL (ts:List (Int × List UInt8)):Nat:=(ts.map fun t => t.2.length).sum
theorem commas_len:∀ ls:List (List UInt8),(commas ls).length<=(ls.map List.length).sum + 2 * ls.length
 | [] => by simp [commas]
 | [a] => by simp [commas]
 | a :: b :: r => by
  have:=commas_len (b :: r)
  simp only [commas,List.length_append,List.map_cons,List.sum_cons,List.length_cons,List.length_nil] at this ⊢
  omega
theorem br_len (p:Int) (t:Int × List UInt8):(br p t).length<=t.2.length + 2:=by
 unfold br
 split
 ·simp
 ·omega
theorem arg_len (ts:List (Int × List UInt8)):(arg ts 0).2.length + (arg ts 1).2.length<=sumL ts:=by
 unfold arg sumL
 match ts with
 | [] => simp
 | [a] => simp
 | a :: b :: r => simp; try omega
theorem sumL_le {l:List Ex} (h:∀ x ∈ l,(Ex.txt x).length<=100 * x.nodes):sumL (txtL l)<=100 * nodesL l:=by
 induction l with
 | nil => simp [txtL,sumL]
 | cons x l ih =>
  have h1:=h x (by simp)
  have h2:=ih fun y hy => h y (by simp [hy])
  rw [txtL_cons,nodesL_cons]
  unfold sumL at h2 ⊢
  simp
  omega
theorem txt_len : ∀ x : Ex, x.okN → (Ex.txt x).length ≤ 100 * x.nodes := by
  refine Ex.ind fun d l ih => ?_
  intro hok
  obtain ⟨h0, hl⟩ := (okN_mk d l).1 hok
  have hs := sumL_le fun x hx => ih x hx (hl x hx)
  have hlen : l.length ≤ 3 ∧ (d.op = 1 → knownB d.k d.n d.s.data.toList = true) ∧ (d.op = 2 → d.nm.data.toList.length ≤ 10) := by
    unfold nodeE at h0
    by_cases hr : d.op < 1 ∨ 18 < d.op
    · rw [if_pos hr] at h0; exact absurd h0 (by decide)
    · rw [if_neg hr] at h0
      by_cases hg : l.length = arity d.op ∧ vOk d = true ∧ nmOk d = true
      · refine ⟨?_, fun h1 => ?_, fun h2 => ?_⟩
        · have : ∀ o : Int, arity o ≤ 3 := fun o => by unfold arity; repeat' split
                                                       all_goals omega
          rw [hg.1]; exact this _
        · have := hg.2.1
          unfold vOk at this
          rw [if_pos h1] at this
          simp only [Bool.and_eq_true] at this
          exact this.1
        · have := hg.2.2
          unfold nmOk nmB at this
          rw [if_pos h2] at this
          simp only [Bool.and_eq_true, decide_eq_true_eq] at this
          exact this.1.1.2
      · rw [if_neg hg] at h0; exact absurd h0 (by decide)
  obtain ⟨h3, hc1, hc2⟩ := hlen
  have hsg := rwF_len d.op
  have hag := arg_len (txtL l)
  have b0 := fun p => br_len p (arg (txtL l) 0)
  have b1 := fun p => br_len p (arg (txtL l) 1)
  rw [txt_mk, nodes_mk]
  unfold txtF
  by_cases o1 : d.op = 1
  · rw [if_pos o1]; have := show_len (hc1 o1); omega
  rw [if_neg o1]
  by_cases o2 : d.op = 2
  · rw [if_pos o2]; have := hc2 o2; omega
  rw [if_neg o2]
  by_cases o6 : precF d.op = 6
  · rw [if_pos o6]
    have := commas_len ((txtL l).map (·.2))
    have e1 : (((txtL l).map (·.2)).map List.length).sum = sumL (txtL l) := by unfold sumL; rw [List.map_map]; rfl
    have e2 : ((txtL l).map (·.2)).length = l.length := by rw [txtL_map]; simp
    rw [e1, e2] at this
    simp only [List.length_append, List.length_cons, List.length_nil]
    omega
  rw [if_neg o6]
  by_cases o4 : d.op = 4
  · rw [if_pos o4]
    have := b0 5
    simp only [List.length_append, List.length_cons]
    omega
  rw [if_neg o4]
  by_cases o5 : precF d.op = 5
  · rw [if_pos o5]
    have := b0 5
    simp only [List.length_append]
    omega
  rw [if_neg o5]
  have := b0 (leftF d.op)
  have := b1 (precF d.op + 1)
  simp only [List.length_append, List.length_cons]
  omega
end PrM
namespace PsM
open LexM ExM
def rwP (op:Nat):NotTab.Rw:=NotTab.rows.getD op ([],0,0)
def opAt (q:Nat) (s:List UInt8):Option Nat:=(List.range 19).find? fun op => decide (3<=op) && decide ((rwP op).2.1=(q:Int)) && decide ((rwP op).1=s)
def opN (op:Nat) (l:List Ex):Ex:=.mk ⟨(op:Int),0,0,⟨#[]⟩,⟨#[]⟩⟩ l
def trueB:List UInt8:=[116,114,117,101]
def falseB:List UInt8:=[102,97,108,115,101]
def leafN (t:Tk):Option Ex :=
 if t.kind=1 ∨ t.kind=3 then some (.mk ⟨1,t.vk,t.n,⟨t.t.toArray⟩,⟨#[]⟩⟩ [])
 else if t.s=trueB then some (.mk ⟨1,2,1,⟨#[]⟩,⟨#[]⟩⟩ [])
 else if t.s=falseB then some (.mk ⟨1,2,0,⟨#[]⟩,⟨#[]⟩⟩ [])
 else if t.kind=2/\keyB t.s=false then some (.mk ⟨2,0,0,⟨#[]⟩,⟨t.s.toArray⟩⟩ [])
 else none
inductive Job where
 | form (q:Nat)
 | loop (q:Nat) (x:Ex)
 | list (n:Nat) (acc:List Ex)
inductive Out where
 | ok (l:List Ex) (r:List Tk)
 | bad (r:List Tk)
 | tired
def isNext (s:List UInt8):List Tk->Bool
 | [] => false
 | t :: _ => decide (t.s=s)
def wrap (op:Nat):Out->Out
 | .ok l r => .ok [opN op l] r
 | o => o
def run:Nat->Job->List Tk->Out
 | 0,_,_ => .tired
 | f + 1,.form q,ts =>
  if q=5 then
   match ts with
   | [] => .bad []
   | t :: r =>
    match opAt 5 t.s with
    | some op => wrap op (run f (.form 5) r)
    | none =>
     if t.s=[40] then run f (.list 1 []) r
     else match opAt 6 t.s with
      | some op => if isNext [40] r then wrap op (run f (.list (arity op) []) r.tail) else .bad r
      | none => match leafN t with
       | some x => .ok [x] r
       | none => .bad (t :: r)
  else match run f (.form (q + 1)) ts with
   | .ok (x :: _) r => run f (.loop q x) r
   | o => o
 | f + 1,.loop q x,ts =>
  match ts with
  | [] => .ok [x] []
  | t :: r =>
   match opAt q t.s with
   | none => .ok [x] (t :: r)
   | some op => match run f (.form (q + 1)) r with
    | .ok (y :: _) r' => if q=2 then .ok [opN op [x,y]] r' else run f (.loop q (opN op [x,y])) r'
    | o => o
 | f + 1,.list n acc,ts =>
  match run f (.form 0) ts with
  | .ok (x :: _) r =>
   if acc.length + 1 < n then (if isNext [44] r then run f (.list n (acc ++ [x])) r.tail else .bad r)
   else (if isNext [41] r then .ok (acc ++ [x]) r.tail else .bad r)
  | o => o
def Ev (j:Job) (ts:List Tk) (o:Out):Prop:=o ≠ .tired/\∃ f0,∀ f,f0<=f->run f j ts=o
theorem Ev.unique {j:Job} {ts:List Tk} {o o':Out} (h:Ev j ts o) (h':Ev j ts o'):o=o':=by
 obtain ⟨_,f,hf⟩:=h
 obtain ⟨_,g,hg⟩:=h'
 rw [← hf (max f g) (Nat.le_max_left _ _),hg (max f g) (Nat.le_max_right _ _)]
theorem Ev.step {j:Job} {ts:List Tk} {o:Out} {f0:Nat} (h0:o ≠ .tired) (h:∀ f,f0<=f->run (f + 1) j ts=o):Ev j ts o :=
 ⟨h0,f0 + 1,fun f hf => by
  obtain ⟨g,rfl⟩:∃ g,f=g + 1:=⟨f - 1,by omega⟩
  exact h g (by omega)⟩
theorem ev_end:Ev (.form 5) [] (.bad []):=Ev.step (f0:=0) (by simp) fun f _ => by simp [run]
theorem ev_prefix {t:Tk} {r:List Tk} {op:Nat} {o:Out} (h:opAt 5 t.s=some op) (hr:Ev (.form 5) r o):Ev (.form 5) (t :: r) (wrap op o):=by
 obtain ⟨h0,g,hg⟩:=hr
 refine Ev.step (f0:=g) (by cases o <;> simp_all [wrap]) fun f hf => ?_
 simp only [run,if_pos,h,hg f hf]
theorem ev_paren {t:Tk} {r:List Tk} {o:Out} (h:opAt 5 t.s=none) (hp:t.s=[40]) (hr:Ev (.list 1 []) r o):Ev (.form 5) (t :: r) o:=by
 obtain ⟨h0,g,hg⟩:=hr
 rw [hp] at h
 refine Ev.step (f0:=g) h0 fun f hf => ?_
 simp only [run,if_pos,hp,h,hg f hf]
theorem ev_call {t:Tk} {r:List Tk} {op:Nat} {o:Out} (h:opAt 5 t.s=none) (hp:t.s ≠ [40]) (h6:opAt 6 t.s=some op) (hn:isNext [40] r=true) (hr:Ev (.list (arity op) []) r.tail o):Ev (.form 5) (t :: r) (wrap op o):=by
 obtain ⟨h0,g,hg⟩:=hr
 refine Ev.step (f0:=g) (by cases o <;> simp_all [wrap]) fun f hf => ?_
 simp only [run,if_pos,h,if_neg hp,h6,hn,hg f hf]
theorem ev_call_bad {t:Tk} {r:List Tk} {op:Nat} (h:opAt 5 t.s=none) (hp:t.s ≠ [40]) (h6:opAt 6 t.s=some op) (hn:isNext [40] r=false):Ev (.form 5) (t :: r) (.bad r) :=
 Ev.step (f0:=0) (by simp) fun f _ => by simp [run,h,hp,h6,hn]
theorem ev_leaf {t:Tk} {r:List Tk} {x:Ex} (h:opAt 5 t.s=none) (hp:t.s ≠ [40]) (h6:opAt 6 t.s=none) (hl:leafN t=some x):Ev (.form 5) (t :: r) (.ok [x] r) :=
 Ev.step (f0:=0) (by simp) fun f _ => by simp [run,h,hp,h6,hl]
theorem ev_leaf_bad {t:Tk} {r:List Tk} (h:opAt 5 t.s=none) (hp:t.s ≠ [40]) (h6:opAt 6 t.s=none) (hl:leafN t=none):Ev (.form 5) (t :: r) (.bad (t :: r)) :=
 Ev.step (f0:=0) (by simp) fun f _ => by simp [run,h,hp,h6,hl]
theorem ev_form {q:Nat} {ts r:List Tk} {x:Ex} {o:Out} (hq:q ≠ 5) (h1:Ev (.form (q + 1)) ts (.ok [x] r)) (h2:Ev (.loop q x) r o):Ev (.form q) ts o:=by
 obtain ⟨_,g1,hg1⟩:=h1
 obtain ⟨h0,g2,hg2⟩:=h2
 refine Ev.step (f0:=max g1 g2) h0 fun f hf => ?_
 simp only [run,if_neg hq,hg1 f (by omega),hg2 f (by omega)]
theorem ev_form_bad {q:Nat} {ts r:List Tk} (hq:q ≠ 5) (h1:Ev (.form (q + 1)) ts (.bad r)):Ev (.form q) ts (.bad r):=by
 obtain ⟨_,g1,hg1⟩:=h1
 refine Ev.step (f0:=g1) (by simp) fun f hf => ?_
 simp only [run,if_neg hq,hg1 f (by omega)]
theorem ev_loop_end {q:Nat} {x:Ex}:Ev (.loop q x) [] (.ok [x] []):=Ev.step (f0:=0) (by simp) fun f _ => by simp [run]
theorem ev_loop_none {q:Nat} {x:Ex} {t:Tk} {r:List Tk} (h:opAt q t.s=none):Ev (.loop q x) (t :: r) (.ok [x] (t :: r)):=Ev.step (f0:=0) (by simp) fun f _ => by simp [run,h]
theorem ev_loop_once {x y:Ex} {t:Tk} {r r':List Tk} {op:Nat} (h:opAt 2 t.s=some op) (h1:Ev (.form 3) r (.ok [y] r')):Ev (.loop 2 x) (t :: r) (.ok [opN op [x,y]] r'):=by
 obtain ⟨_,g1,hg1⟩:=h1
 refine Ev.step (f0:=g1) (by simp) fun f hf => ?_
 simp only [run,h,hg1 f (by omega),if_pos]
theorem ev_loop_more {q:Nat} {x y:Ex} {t:Tk} {r r':List Tk} {op:Nat} {o:Out} (hq:q ≠ 2) (h:opAt q t.s=some op) (h1:Ev (.form (q + 1)) r (.ok [y] r')) (h2:Ev (.loop q (opN op [x,y])) r' o):Ev (.loop q x) (t :: r) o:=by
 obtain ⟨_,g1,hg1⟩:=h1
 obtain ⟨h0,g2,hg2⟩:=h2
 refine Ev.step (f0:=max g1 g2) h0 fun f hf => ?_
 simp only [run,h,hg1 f (by omega),if_neg hq,hg2 f (by omega)]
theorem ev_loop_bad {q:Nat} {x:Ex} {t:Tk} {r r':List Tk} {op:Nat} (h:opAt q t.s=some op) (h1:Ev (.form (q + 1)) r (.bad r')):Ev (.loop q x) (t :: r) (.bad r'):=by
 obtain ⟨_,g1,hg1⟩:=h1
 refine Ev.step (f0:=g1) (by simp) fun f hf => ?_
 simp only [run,h,hg1 f (by omega)]
theorem ev_list_more {n:Nat} {acc:List Ex} {ts r:List Tk} {x:Ex} {o:Out} (h1:Ev (.form 0) ts (.ok [x] r)) (hn:acc.length + 1 < n) (hc:isNext [44] r=true) (h2:Ev (.list n (acc ++ [x])) r.tail o):Ev (.list n acc) ts o:=by
 obtain ⟨_,g1,hg1⟩:=h1
 obtain ⟨h0,g2,hg2⟩:=h2
 refine Ev.step (f0:=max g1 g2) h0 fun f hf => ?_
 simp only [run,hg1 f (by omega),if_pos hn,hc,if_true,hg2 f (by omega)]
theorem ev_list_more_bad {n:Nat} {acc:List Ex} {ts r:List Tk} {x:Ex} (h1:Ev (.form 0) ts (.ok [x] r)) (hn:acc.length + 1 < n) (hc:isNext [44] r=false):Ev (.list n acc) ts (.bad r):=by
 obtain ⟨_,g1,hg1⟩:=h1
 refine Ev.step (f0:=g1) (by simp) fun f hf => ?_
 simp [run,hg1 f (by omega),hn,hc]
theorem ev_list_last {n:Nat} {acc:List Ex} {ts r:List Tk} {x:Ex} (h1:Ev (.form 0) ts (.ok [x] r)) (hn:¬ acc.length + 1 < n) (hc:isNext [41] r=true):Ev (.list n acc) ts (.ok (acc ++ [x]) r.tail):=by
 obtain ⟨_,g1,hg1⟩:=h1
 refine Ev.step (f0:=g1) (by simp) fun f hf => ?_
 simp [run,hg1 f (by omega),hn,hc]
theorem ev_list_last_bad {n:Nat} {acc:List Ex} {ts r:List Tk} {x:Ex} (h1:Ev (.form 0) ts (.ok [x] r)) (hn:¬ acc.length + 1 < n) (hc:isNext [41] r=false):Ev (.list n acc) ts (.bad r):=by
 obtain ⟨_,g1,hg1⟩:=h1
 refine Ev.step (f0:=g1) (by simp) fun f hf => ?_
 simp [run,hg1 f (by omega),hn,hc]
theorem ev_list_bad {n:Nat} {acc:List Ex} {ts r:List Tk} (h1:Ev (.form 0) ts (.bad r)):Ev (.list n acc) ts (.bad r):=by
 obtain ⟨_,g1,hg1⟩:=h1
 refine Ev.step (f0:=g1) (by simp) fun f hf => ?_
 simp only [run,hg1 f (by omega)]
inductive Ch (q:Nat):Nat->Ex->List Tk->Out->Prop where
 | stop {h:Nat} {x:Ex} {ts:List Tk} (hq:h<=q):Ch q h x ts (.ok [x] ts)
 | next {h:Nat} {x y:Ex} {ts r:List Tk} {o:Out} (hq:q<=h) (h1:Ev (.loop h x) ts (.ok [y] r)) (h2:Ch q h y r o):Ch q (h + 1) x ts o
 | bad {h:Nat} {x:Ex} {ts r:List Tk} (hq:q<=h) (h1:Ev (.loop h x) ts (.bad r)):Ch q (h + 1) x ts (.bad r)
theorem form_bad {q h:Nat} (hq:q<=h) (h5:h<=5) {ts r:List Tk} (h2:Ev (.form h) ts (.bad r)):Ev (.form q) ts (.bad r):=by
 induction h with
 | zero =>
  have:q=0:=by omega
  subst this; exact h2
 | succ h ih =>
  rcases Nat.lt_or_ge q (h + 1) with g | g
  ·exact ih (by omega) (by omega) (ev_form_bad (by omega) h2)
  ·have:q=h + 1:=by omega
   subst this; exact h2
theorem form_of_chain {q h:Nat} (hq:q<=h) (h5:h<=5) {ts:List Tk} {x:Ex} {r:List Tk} (h1:Ev (.form h) ts (.ok [x] r)) {o:Out} (hc:Ch q h x r o):Ev (.form q) ts o:=by
 induction h generalizing x r o with
 | zero =>
  have:q=0:=by omega
  subst this
  cases hc with
  | stop _ => exact h1
 | succ h ih =>
  cases hc with
  | stop hle =>
   have:q=h + 1:=by omega
   subst this; exact h1
  | next hle hl hr => exact ih hle (by omega) (ev_form (by omega) h1 hl) hr
  | bad hle hl =>
   have h2:Ev (.form h) ts (.bad _):=ev_form (by omega) h1 hl
   exact form_bad hle (by omega) h2
theorem chain_none {q h:Nat} {x:Ex} {ts:List Tk} (hn:∀ p,q<=p->p < h->∀ t r,ts=t :: r->opAt p t.s=none):Ch q h x ts (.ok [x] ts):=by
 induction h with
 | zero => exact .stop (Nat.zero_le _)
 | succ h ih =>
  rcases Nat.lt_or_ge h q with g | g
  ·exact .stop g
  ·refine .next g ?_ (ih fun p h1 h2 => hn p h1 (by omega))
   cases ts with
   | nil => exact ev_loop_end
   | cons t r => exact ev_loop_none (hn h g (by omega) t r rfl)
theorem chain_skip {q p h:Nat} {x:Ex} {t:Tk} {r:List Tk} {o:Out} (hqp:q<=p) (hph:p < h) (hn:∀ m,p < m->m < h->opAt m t.s=none) (hc:Ch q (p + 1) x (t :: r) o):Ch q h x (t :: r) o:=by
 induction h with
 | zero => omega
 | succ h ih =>
  rcases Nat.lt_or_ge p h with g | g
  ·exact .next (by omega) (ev_loop_none (hn h g (by omega))) (ih g fun m h1 h2 => hn m h1 (by omega))
  ·have:p=h:=by omega
   subst this; exact hc
theorem chain_op {q p:Nat} {x y:Ex} {t:Tk} {r r':List Tk} {op:Nat} {o:Out} (hqp:q<=p) (hop:opAt p t.s=some op) (hy:Ev (.form (p + 1)) r (.ok [y] r')) (hc:Ch q (if p=2 then p else p + 1) (opN op [x,y]) r' o):Ch q (p + 1) x (t :: r) o:=by
 by_cases h2:p=2
 ·subst h2
  rw [if_pos rfl] at hc
  exact .next hqp (ev_loop_once hop hy) hc
 ·rw [if_neg h2] at hc
  cases hc with
  | stop hle => omega
  | next hle hl hr => exact .next hqp (ev_loop_more h2 hop hy hl) hr
  | bad hle hl => exact .bad hqp (ev_loop_more h2 hop hy hl)
end PsM
namespace PsLx
open LexM ExM PsM NumM ValM ShowM ParseM
set_option linter.unusedVariables false
def Kd (t:Tk):Prop:=t.kind=1 ∨ t.kind=3 ∨ t.kind=2 ∨ (t.kind=4/\t.s ≠ trueB/\t.s ≠ falseB)
theorem head_facts {c:UInt8} {r:List UInt8} {T:Tok} (p:Nat) (h:firstF (c :: r)=.tok T):(mk T p (c :: r)).s ≠ []/\(mk T p (c :: r)).s.length<=(c :: r).length/\(mk T p (c :: r)).t.length<=(c :: r).length/\Kd (mk T p (c :: r)):=by
 have hl:=first_len h
 obtain ⟨k,hk⟩:∃ k,T.len=k + 1:=⟨T.len - 1,by omega⟩
 have hs:(mk T p (c :: r)).s=c :: r.take k:=by show (c :: r).take T.len=_; rw [hk,List.take_succ_cons]
 have hsl:(mk T p (c :: r)).s.length<=(c :: r).length:=by show ((c :: r).take T.len).length<=_; rw [List.length_take]; omega
 rw [hs] at hsl
 have hne:c :: r.take k ≠ []:=by simp
 rw [first_cons] at h
 split at h
 ·obtain ⟨h1,h2,h3,h4⟩:=numT_tok h
  exact ⟨by rw [hs]; exact hne,by rw [hs]; exact hsl,by show T.t.length<=_; rw [h4]; simp,.inl h2⟩
 ·split at h
  ·obtain ⟨h1,_⟩:=wordT_tok h
   exact ⟨by rw [hs]; exact hne,by rw [hs]; exact hsl,by show T.t.length<=_; rw [h1]; simp,.inr (.inr (.inl (by show T.kind=2; rw [h1])))⟩
  ·rename_i hw
   split at h
   ·obtain ⟨m,u,h1,h2,rfl⟩:=quoT_tok h
    have:=quoF_len _ _ _ h1
    exact ⟨by rw [hs]; exact hne,by rw [hs]; exact hsl,by show u.length<=_; rw [List.length_cons]; omega,.inr (.inl rfl)⟩
   ·have hT:T.kind=4/\T.t=[]:=by
     unfold sgnT at h
     split at h
     ·injection h with h; subst h; exact ⟨rfl,rfl⟩
     ·split at h
      ·injection h with h; subst h; exact ⟨rfl,rfl⟩
      ·cases h
    refine ⟨by rw [hs]; exact hne,by rw [hs]; exact hsl,by show T.t.length<=_; rw [hT.2]; simp,.inr (.inr (.inr ⟨hT.1,?_,?_⟩))⟩
    ·rw [hs]; intro e; injection e with e _; subst e; exact hw (by decide)
    ·rw [hs]; intro e; injection e with e _; subst e; exact hw (by decide)
theorem tok_facts (l:List UInt8) (p:Nat):∀ ts,tokens l p=.ok ts->∀ t ∈ ts,t.s ≠ []/\t.s.length<=l.length/\t.t.length<=l.length/\Kd t:=by
 refine tokens_ind (M:=fun l p r => ∀ ts,r=.ok ts->∀ t ∈ ts,t.s ≠ []/\t.s.length<=l.length/\t.t.length<=l.length/\Kd t) ?_ ?_ ?_ ?_ l.length l p (Nat.le_refl _)
 ·intro p ts h t ht; injection h with h; subst h; cases ht
 ·intro r p ih ts h t ht
  obtain ⟨h1,h2,h3,h4⟩:=ih ts h t ht
  exact ⟨h1,by simp; omega,by simp; omega,h4⟩
 ·intro c r p e _ _ ts h; cases h
 ·intro c r p T hc hT ih ts h t ht
  cases hr:tokens ((c :: r).drop T.len) (p + T.len) with
  | bad q e => rw [hr] at h; cases h
  | ok us =>
   rw [hr] at h
   injection h with h; subst h
   rcases List.mem_cons.1 ht with rfl | ht
   ·exact head_facts p hT
   ·obtain ⟨h1,h2,h3,h4⟩:=ih us hr t ht
    have:((c :: r).drop T.len).length<=(c :: r).length:=by simp
    exact ⟨h1,by omega,by omega,h4⟩
theorem show_true:showL 2 1 []=trueB:=by rfl
theorem show_false:showL 2 0 []=falseB:=by rfl
end PsLx
end Go.Proofs.YtjhhmdmmllblhaaGreatDoor
