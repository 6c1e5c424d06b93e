/- Kit Base RawValue Ex GenLeaf: what these laws name of them. -/
import Derived.Below
import Derived.Deep.Draws
import Derived.WalkKit
import Derived.ProofKit
import GoSem.Claim
import Derived.Lib.Bytealg
import Derived.Lib.Small
import Derived.Lib.AtoiAll
import Derived.Test.YtonlkmkfcaadlaaGreatDoorChecked
import Derived.Lib.ConvBytes
import Derived.Lib.AtoiErrMem
import Derived.Laws.IdiomStrings
import Derived.WalkSpells
import Derived.WalkLawsBesides
import Derived.Outline
import Derived.Lib.Hide
import Derived.Deep.LoopGhost
import Derived.Test.YtonlkmkfcaadlaaGreatDoorProg
import Derived.IntWalk
import Derived.Laws.OwnMore
import Derived.OwnWalk
import Derived.ChangeAlike
import Derived.RangeFuncBox
import Derived.Deep.RegionHeld3
import Derived.Deep.AppendLies
import Derived.Deep.RegionLaw
import Derived.Deep.RegionWith
import Derived.RegionTactic
import Derived.BigRegion
import Derived.Laws.Pointers
namespace Go.Proofs.YtonlkmkfcaadlaaGreatDoor
set_option linter.unusedVariables false
namespace Kit
open Go.RowKit
theorem ret_bool {a b:Bool} (h:a=b):Ending.returned (.bool a)=.returned (.bool b):=by rw [h]
theorem b_drewN {B:Nat} {a w:World} (h:Below B a w) (n:Nat):Below B a (w.drewN n):=⟨h.os,h.tape,h.output,h.size,h.block⟩
theorem b_trans {w w1 w2:World} (h1:Below w.heap.size w w1) (h2:Below w1.heap.size w1 w2):Below w.heap.size w w2:=h1.trans (h2.mono h1.size)
theorem b_new (w:World) (o:Obj):Below w.heap.size w (w.alloc o):=(Below.refl _ _).alloc (Nat.le_refl _) _
theorem b_then {w w1:World} {o:Obj} (h:Below (w.alloc o).heap.size (w.alloc o) w1):Below w.heap.size w w1:=(b_new w o).trans (h.mono (by simp))
theorem b_more {w w1:World} (h:Below w.heap.size w w1) (o:Obj):Below w.heap.size w (w1.alloc o):=h.trans ((b_new w1 o).mono h.size)
theorem b_undrew {w w1:World} (h:Below w.drew.heap.size w.drew w1):Below w.heap.size w w1:=⟨h.os,h.tape,h.output,h.size,h.block⟩
theorem b_drew {B:Nat} {a w:World} (h:Below B a w):Below B a w.drew:=⟨h.os,h.tape,h.output,h.size,h.block⟩
theorem b_thenD {w w1:World} {o:Obj} (h:Below (w.alloc o).drew.heap.size (w.alloc o).drew w1):Below w.heap.size w w1:=b_then (b_undrew h)
theorem bcell {W w1:World} (hb:Below W.heap.size W w1):(∀ b o,b < W.heap.size->w1.cell? ⟨b,o,none⟩=W.cell? ⟨b,o,none⟩)/\(∀ b o,b < W.heap.size->w1.frozen? ⟨b,o,none⟩=W.frozen? ⟨b,o,none⟩) :=
 ⟨fun b o h => hb.cell (p:=⟨b,o,none⟩) h,fun b o h => hb.frozen (p:=⟨b,o,none⟩) h⟩
theorem box3 {W w1:World} (B:Nat) (k n:Int) (s:ByteArray) (hb:Below W.heap.size W w1) (h:B < W.heap.size) (h0:W.cell? ⟨B,0,none⟩=some (.int .i64 k)) (h1:W.cell? ⟨B,1,none⟩=some (.int .i64 n)) (h2:W.cell? ⟨B,2,none⟩=some (.string s)) :
  w1.cell? ⟨B,0,none⟩=some (.int .i64 k)/\w1.cell? ⟨B,1,none⟩=some (.int .i64 n)/\w1.cell? ⟨B,2,none⟩=some (.string s)/\B < w1.heap.size :=
 ⟨(hb.cell (p:=⟨B,0,none⟩) h).trans h0,(hb.cell (p:=⟨B,1,none⟩) h).trans h1,(hb.cell (p:=⟨B,2,none⟩) h).trans h2,Nat.lt_of_lt_of_le h hb.size⟩
theorem zlt {W w1:World} (h:Below W.heap.size W w1):∀ b,b < W.heap.size->b < w1.heap.size:=fun _ g => Nat.lt_of_lt_of_le g h.size
theorem sz_set (w:World) (a:Addr) (v:Value):(w.setCell a v).heap.size=w.heap.size:=by simp [World.setCell]
theorem b_set3 {w w1:World} (h:Below w.heap.size w w1) (b:Nat) (hb:w.heap.size<=b) (x y z:Value):Below w.heap.size w (((w1.setCell ⟨b,0,none⟩ x).setCell ⟨b,1,none⟩ y).setCell ⟨b,2,none⟩ z) :=
 ((h.setCell (p:=⟨b,0,none⟩) hb _).setCell (p:=⟨b,1,none⟩) hb _).setCell (p:=⟨b,2,none⟩) hb _
end Kit
namespace NumM
theorem fdiv_pos (a b:Int) (hb:0 < b):a.fdiv b * b<=a/\a < a.fdiv b * b + b/\a.fmod b=a - a.fdiv b * b:=by
 have h:=Int.mul_fdiv_add_fmod a b
 have h1:=Int.fmod_nonneg_of_pos a hb
 have h2:=Int.fmod_lt_of_pos a hb
 rw [Int.mul_comm] at h
 omega
theorem fdiv_neg (a b:Int) (hb:b < 0):a<=a.fdiv b * b/\a.fdiv b * b + b < a/\a.fmod b=a - a.fdiv b * b:=by
 have e:=Int.neg_fdiv_neg a b
 have h:=fdiv_pos (-a) (-b) (by omega)
 rw [e,Int.mul_neg] at h
 have h3:=Int.mul_fdiv_add_fmod a b
 rw [Int.mul_comm] at h3
 omega
theorem fdiv_uniq_pos (a b q:Int) (hb:0 < b) (h1:q * b<=a) (h2:a < q * b + b):a.fdiv b=q:=by
 obtain ⟨g1,g2,_⟩:=fdiv_pos a b hb
 have e1:¬ q < a.fdiv b:=by
  intro h
  have:=Int.mul_le_mul_of_nonneg_right (show q + 1<=a.fdiv b by omega) (show 0<=b by omega)
  rw [Int.add_mul,Int.one_mul] at this
  omega
 have e2:¬ a.fdiv b < q:=by
  intro h
  have:=Int.mul_le_mul_of_nonneg_right (show a.fdiv b + 1<=q by omega) (show 0<=b by omega)
  rw [Int.add_mul,Int.one_mul] at this
  omega
 omega
theorem fdiv_uniq_neg (a b q:Int) (hb:b < 0) (h1:a<=q * b) (h2:q * b + b < a):a.fdiv b=q:=by
 rw [← Int.neg_fdiv_neg]
 exact fdiv_uniq_pos (-a) (-b) q (by omega) (by rw [Int.mul_neg]; omega) (by rw [Int.mul_neg]; omega)
theorem tdiv_facts (a b:Int) (hb:b ≠ 0):a.tdiv b * b + a.tmod b=a/\(0<=a->0<=a.tmod b)/\(a<=0->a.tmod b<=0)/\(0 < b->a.tmod b < b/\-b < a.tmod b)/\(b < 0->a.tmod b < -b/\b < a.tmod b):=by
 have h:=Int.mul_tdiv_add_tmod a b
 rw [Int.mul_comm] at h
 have h1:0<=a->0<=a.tmod b:=fun g => Int.tmod_nonneg b g
 have h2:a<=0->a.tmod b<=0:=fun g => by
  have:=Int.tmod_nonneg b (show 0<=-a by omega)
  rw [Int.neg_tmod] at this
  omega
 have h3:(a.tmod b).natAbs < b.natAbs:=by
  rw [Int.natAbs_tmod]
  exact Nat.mod_lt _ (by omega)
 refine ⟨h,h1,h2,?_,?_⟩ <;> intro hb' <;> omega
theorem fdiv_same (a b:Int) (hb:b ≠ 0) (h:a.tmod b=0 ∨ (0<=a/\0 < b) ∨ (a<=0/\b < 0)):a.fdiv b=a.tdiv b:=by
 obtain ⟨h0,h1,h2,h3,h4⟩:=tdiv_facts a b hb
 rcases Int.lt_or_gt_of_ne hb with g | g
 ·exact fdiv_uniq_neg a b _ g (by omega) (by omega)
 ·exact fdiv_uniq_pos a b _ g (by omega) (by omega)
theorem fdiv_less (a b:Int) (hb:b ≠ 0) (hr:a.tmod b ≠ 0) (h:(a < 0/\0 < b) ∨ (0<=a/\b < 0)):a.fdiv b=a.tdiv b - 1:=by
 obtain ⟨h0,h1,h2,h3,h4⟩:=tdiv_facts a b hb
 rcases Int.lt_or_gt_of_ne hb with g | g
 ·exact fdiv_uniq_neg a b _ g (by rw [Int.sub_mul,Int.one_mul]; omega) (by rw [Int.sub_mul,Int.one_mul]; omega)
 ·exact fdiv_uniq_pos a b _ g (by rw [Int.sub_mul,Int.one_mul]; omega) (by rw [Int.sub_mul,Int.one_mul]; omega)
theorem tdiv_bd (a b m:Int) (h1:-m<=a) (h2:a<=m):-m<=a.tdiv b/\a.tdiv b<=m:=by
 have h:=Int.natAbs_tdiv a b
 have h3:(a.tdiv b).natAbs<=a.natAbs:=by rw [h]; exact Nat.div_le_self _ _
 omega
theorem fdiv_bd_pos (a b m:Int) (g:0 < b) (h1:-m<=a) (h2:a<=m):-m<=a.fdiv b/\a.fdiv b<=m:=by
 obtain ⟨g1,g2,_⟩:=fdiv_pos a b g
 constructor
 ·apply Int.le_of_not_gt; intro h
  have k1:=Int.mul_le_mul_of_nonneg_right (show a.fdiv b + 1<=-m by omega) (show 0<=b by omega)
  have k2:=Int.mul_le_mul_of_nonneg_left (show 1<=b by omega) (show 0<=m by omega)
  rw [Int.add_mul,Int.neg_mul] at k1
  omega
 ·apply Int.le_of_not_gt; intro h
  have k1:=Int.mul_le_mul_of_nonneg_right (show m + 1<=a.fdiv b by omega) (show 0<=b by omega)
  have k2:=Int.mul_le_mul_of_nonneg_left (show 1<=b by omega) (show 0<=m + 1 by omega)
  omega
theorem fdiv_bd (a b m:Int) (hb:b ≠ 0) (h1:-m<=a) (h2:a<=m):-m<=a.fdiv b/\a.fdiv b<=m:=by
 rcases Int.lt_or_gt_of_ne hb with g | g
 ·rw [← Int.neg_fdiv_neg]
  exact fdiv_bd_pos (-a) (-b) m (by omega) (by omega) (by omega)
 ·exact fdiv_bd_pos a b m g h1 h2
theorem fmod_bd (a b m:Int) (hb:b ≠ 0) (h1:-m<=b) (h2:b<=m):-m<=a.fmod b/\a.fmod b<=m:=by
 rcases Int.lt_or_gt_of_ne hb with k | k
 ·obtain ⟨g1,g2,g3⟩:=fdiv_neg a b k; omega
 ·obtain ⟨g1,g2,g3⟩:=fdiv_pos a b k; omega
def okN (n:Int):Bool:=decide (-1099511627776<=n/\n<=1099511627776)
def binV (a b c:Int):Int:=if okN a=true/\okN b=true/\okN c=true then c else 0
def binE (a b c:Int):Int:=if okN a=true/\okN b=true/\okN c=true then 0 else 7
def quoV (a b c:Int):Int:=if b=0 then 0 else binV a b c
def quoE (a b c:Int):Int:=if okN a=true then (if b=0 then 8 else binE a b c) else 7
theorem okN_iff {n:Int}:okN n=true ↔ (-1099511627776<=n/\n<=1099511627776):=by unfold okN; exact decide_eq_true_iff
theorem okN_not {n:Int}:¬ okN n=true ↔ (n < -1099511627776 ∨ 1099511627776 < n):=by rw [okN_iff]; omega
theorem bin_in {a b c:Int} (h1:okN a=true) (h2:okN b=true) (h3:okN c=true):binV a b c=c/\binE a b c=0 :=
 ⟨if_pos ⟨h1,h2,h3⟩,if_pos ⟨h1,h2,h3⟩⟩
theorem bin_out {a b c:Int} (h:¬ (okN a=true/\okN b=true/\okN c=true)):binV a b c=0/\binE a b c=7 :=
 ⟨if_neg h,if_neg h⟩
theorem mul_sizes (a b:Int):(a * b).natAbs=b.natAbs * a.natAbs:=by rw [Int.natAbs_mul,Nat.mul_comm]
end NumM
namespace ValM
open NumM
def cleanL (l:List UInt8):Bool:=l.all fun c => decide (32<=c.toNat) && decide (c.toNat<=126)
def numE (k n:Int):Int :=
 if k=1 then (if okN n then 0 else 7)
 else if k=2 then (if 0<=n/\n<=1 then 0 else 4)
 else if k=3 ∨ k=4 then (if n=0 then 0 else 4)
 else if k=5 then (if 1<=n/\n<=15 then 0 else 4)
 else 2
def strE (k:Int) (l:List UInt8):Int :=
 if k=3 then (if 40 < l.length then 1 else if cleanL l then 0 else 3) else (if l=[] then 0 else 3)
def valE (k n:Int) (l:List UInt8):Int:=if numE k n=0 then strE k l else numE k n
def isT (k:Int):Bool:=decide (k=1) || decide (k=2) || decide (k=3)
def knownB (k n:Int) (l:List UInt8):Bool:=isT k && decide (valE k n l=0)
theorem cleanL_snoc (l:List UInt8) (c:UInt8):cleanL (l ++ [c])=(cleanL l && (decide (32<=c.toNat) && decide (c.toNat<=126))):=by
 unfold cleanL; rw [List.all_append]; simp
theorem take_snoc (s:ByteArray) (k:Nat) (h:k < s.size):s.data.toList.take (k + 1)=s.data.toList.take k ++ [s[k]]:=by
 rw [List.take_succ_eq_append_getElem (by simpa using h)]; rfl
theorem cleanL_bad (s:ByteArray) (k:Nat) (h:k < s.size) (hb:s[k].toNat < 32 ∨ 126 < s[k].toNat):cleanL s.data.toList=false:=by
 unfold cleanL
 rw [List.all_eq_false]
 refine ⟨s[k],?_,?_⟩
 ·have:s[k]=s.data.toList[k]'(by simpa using h):=rfl
  rw [this]; exact List.getElem_mem _
 ·simp only [Bool.and_eq_true,decide_eq_true_eq,not_and,Nat.not_le]; omega
theorem cleanL_step (s:ByteArray) (k:Nat) (h:k < s.size) (hk:cleanL (s.data.toList.take k)=true) (h1:32<=s[k].toNat) (h2:s[k].toNat<=126):cleanL (s.data.toList.take (k + 1))=true:=by
 rw [take_snoc s k h,cleanL_snoc,hk]; simp [h1,h2]
theorem cleanL_all (s:ByteArray) (k:Nat) (h:s.size<=k) (hk:cleanL (s.data.toList.take k)=true):cleanL s.data.toList=true:=by
 rw [List.take_of_length_le (by simpa using h)] at hk; exact hk
theorem len_size (s:ByteArray):s.data.toList.length=s.size:=rfl
theorem not_nil (s:ByteArray) (h:0 < s.size):s.data.toList ≠ []:=fun e => by
 have:s.data.toList.length=0:=by rw [e]; rfl
 rw [len_size] at this; omega
theorem strE_clean {l:List UInt8} (h1:l.length<=40) (h2:cleanL l=true):strE 3 l=0:=by
 unfold strE; rw [if_pos rfl,if_neg (by omega),if_pos h2]
theorem strE_foul {l:List UInt8} (h1:l.length<=40) (h2:cleanL l=false):strE 3 l=3:=by
 unfold strE; rw [if_pos rfl,if_neg (by omega),if_neg (by simp [h2])]
theorem strE_long {l:List UInt8} (h1:40 < l.length):strE 3 l=1:=by
 unfold strE; rw [if_pos rfl,if_pos h1]
theorem strE_other {k:Int} {l:List UInt8} (hk:k ≠ 3):strE k l=if l=[] then 0 else 3:=by
 unfold strE; rw [if_neg hk]
end ValM
namespace StrM
open Go.Lib
end StrM
namespace LexM
def lowB (c:UInt8):Bool:=decide (97<=c.toNat) && decide (c.toNat<=122)
def digB (c:UInt8):Bool:=decide (48<=c.toNat) && decide (c.toNat<=57)
def alnB (c:UInt8):Bool:=lowB c || digB c
def sgnB (c:UInt8):Bool:=decide (c=60) || decide (c=61) || decide (c=43) || decide (c=45) || decide (c=42) || decide (c=47) || decide (c=37) || decide (c=38) || decide (c=40) || decide (c=41) || decide (c=44)
structure Tok where
 kind:Int
 len:Nat
 vk:Int
 n:Int
 t:List UInt8
inductive Fst where
 | bad (e:Int)
 | tok (t:Tok)
def quoF:List UInt8->Option (Nat × List UInt8)
 | [] => none
 | [c] => if c=34 then some (1,[]) else none
 | c :: d :: r =>
  if c=34 then some (1,[])
  else if c.toNat < 32 ∨ 126 < c.toNat then none
  else if c=92 then (if d=34 ∨ d=92 then (quoF r).map fun x => (x.1 + 2,d :: x.2) else none)
  else (quoF (d :: r)).map fun x => (x.1 + 1,c :: x.2)
def numT (d:List UInt8):Fst :=
 if d.head?=some 48/\1 < d.length then .bad 3
 else match Lib.atoiAll d with
  | .ok n => if 1099511627776 < n then .bad 7 else .tok ⟨1,d.length,1,n,[]⟩
  | _ => .bad 7
def wordT (d:List UInt8):Fst:=if 10 < d.length then .bad 1 else .tok ⟨2,d.length,0,0,[]⟩
def quoT (r:List UInt8):Fst :=
 match quoF r with
 | none => .bad 3
 | some (m,t) => if 40 < t.length then .bad 1 else .tok ⟨3,m + 1,3,0,t⟩
def sgnT (c:UInt8) (r:List UInt8):Fst :=
 if (c=60 ∨ c=33)/\r.head?=some 61 then .tok ⟨4,2,0,0,[]⟩ else if sgnB c then .tok ⟨4,1,0,0,[]⟩ else .bad 3
def firstF:List UInt8->Fst
 | [] => .bad 3
 | c :: r =>
  if digB c then numT ((c :: r).takeWhile digB)
  else if lowB c then wordT ((c :: r).takeWhile alnB)
  else if c=34 then quoT r
  else sgnT c r
theorem first_cons (c:UInt8) (r:List UInt8):firstF (c :: r)=if digB c then numT ((c :: r).takeWhile digB) else if lowB c then wordT ((c :: r).takeWhile alnB) else if c=34 then quoT r else sgnT c r:=rfl
structure Tk where
 kind:Int
 pos:Nat
 s:List UInt8
 vk:Int
 n:Int
 t:List UInt8
inductive Res where
 | bad (pos:Nat) (e:Int)
 | ok (l:List Tk)
def Res.cons (x:Tk):Res->Res
 | .bad p e => .bad p e
 | .ok l => .ok (x :: l)
def mk (t:Tok) (pos:Nat) (l:List UInt8):Tk:=⟨t.kind,pos,l.take t.len,t.vk,t.n,t.t⟩
def toks:Nat->List UInt8->Nat->Res
 | 0,_,_ => .ok []
 | _ + 1,[],_ => .ok []
 | f + 1,c :: r,p =>
  if c=32 then toks f r (p + 1)
  else match firstF (c :: r) with
   | .bad e => .bad p e
   | .tok t => (toks f ((c :: r).drop t.len) (p + t.len)).cons (mk t p (c :: r))
def fin (acc:List Tk):Res->List Tk × Nat × Int
 | .bad p e => ([],p,e)
 | .ok l => (acc ++ l,0,0)
theorem tw_len (p:UInt8->Bool):∀ l:List UInt8,(l.takeWhile p).length<=l.length
 | [] => by simp
 | c :: l => by
  rw [List.takeWhile_cons]
  split
  ·have:=tw_len p l; simp; omega
  ·simp
theorem quoF_len:∀ (l:List UInt8) (m:Nat) (t:List UInt8),quoF l=some (m,t)->1<=m/\m<=l.length/\t.length < m
 | [],m,t,h => by simp [quoF] at h
 | [c],m,t,h => by
  unfold quoF at h
  split at h
  ·simp only [Option.some.injEq,Prod.mk.injEq] at h; obtain ⟨rfl,rfl⟩:=h; simp
  ·cases h
 | c :: d :: r,m,t,h => by
  unfold quoF at h
  split at h
  ·simp only [Option.some.injEq,Prod.mk.injEq] at h; obtain ⟨rfl,rfl⟩:=h; simp
  ·split at h
   ·cases h
   ·split at h
    ·split at h
     ·obtain ⟨⟨m',t'⟩,h',hx⟩:=Option.map_eq_some_iff.1 h
      simp only [Prod.mk.injEq] at hx; obtain ⟨rfl,rfl⟩:=hx
      have:=quoF_len r m' t' h'
      simp only [List.length_cons]; omega
     ·cases h
    ·obtain ⟨⟨m',t'⟩,h',hx⟩:=Option.map_eq_some_iff.1 h
     simp only [Prod.mk.injEq] at hx; obtain ⟨rfl,rfl⟩:=hx
     have:=quoF_len (d :: r) m' t' h'
     simp only [List.length_cons] at this ⊢; omega
theorem numT_tok {d:List UInt8} {t:Tok} (h:numT d=.tok t):t.len=d.length/\t.kind=1/\t.vk=1/\t.t=[]:=by
 unfold numT at h
 split at h
 ·cases h
 ·split at h
  ·split at h
   ·cases h
   ·injection h with h; subst h; simp
  ·cases h
theorem wordT_tok {d:List UInt8} {t:Tok} (h:wordT d=.tok t):t=⟨2,d.length,0,0,[]⟩/\d.length<=10:=by
 unfold wordT at h
 split at h
 ·cases h
 ·injection h with h; exact ⟨h.symm,by omega⟩
theorem quoT_tok {r:List UInt8} {t:Tok} (h:quoT r=.tok t):∃ m u,quoF r=some (m,u)/\u.length<=40/\t=⟨3,m + 1,3,0,u⟩:=by
 unfold quoT at h
 split at h
 ·cases h
 ·rename_i m u hq
  split at h
  ·cases h
  ·injection h with h; exact ⟨m,u,hq,by omega,h.symm⟩
theorem first_len {l:List UInt8} {t:Tok} (h:firstF l=.tok t):1<=t.len/\t.len<=l.length:=by
 cases l with
 | nil => cases h
 | cons c r =>
  rw [first_cons] at h
  split at h
  ·rename_i hd
   obtain ⟨h1,_⟩:=numT_tok h
   have h2:=tw_len digB (c :: r)
   rw [h1]; refine ⟨?_,h2⟩
   rw [List.takeWhile_cons,if_pos hd]; simp
  ·split at h
   ·rename_i hd
    obtain ⟨rfl,_⟩:=wordT_tok h
    have h2:=tw_len alnB (c :: r)
    refine ⟨?_,h2⟩
    show 1<=((c :: r).takeWhile alnB).length
    rw [List.takeWhile_cons,if_pos (by simp [alnB,hd])]; simp
   ·split at h
    ·obtain ⟨m,u,hq,_,rfl⟩:=quoT_tok h
     have:=quoF_len r m u hq
     simp; omega
    ·unfold sgnT at h
     split at h
     ·rename_i hh
      injection h with h; subst h
      cases r with
      | nil => simp at hh
      | cons d r => simp
     ·split at h
      ·injection h with h; subst h; simp
      ·cases h
theorem tw_cut (p:UInt8->Bool):∀ (l r:List UInt8),(r=[] ∨ (∃ c,r.head?=some c/\p c=false) ∨ r.head?=(l.drop (l.takeWhile p).length).head?) →
  (l.take (l.takeWhile p).length ++ r).takeWhile p=l.takeWhile p
 | [],r,h => by
  cases r with
  | nil => rfl
  | cons d r =>
   rcases h with h | ⟨c,h,hp⟩ | h
   ·cases h
   ·simp at h; subst h; simp [hp]
   ·simp at h
 | c :: l,r,h => by
  rw [List.takeWhile_cons] at h ⊢
  by_cases hc:p c=true
  ·rw [if_pos hc] at h ⊢
   simp only [List.length_cons,List.take_succ_cons,List.cons_append,List.drop_succ_cons] at h ⊢
   rw [List.takeWhile_cons,if_pos hc,tw_cut p l r h]
  ·rw [if_neg hc] at h ⊢
   cases r with
   | nil => rfl
   | cons d r =>
    have hd:p d=false:=by
     rcases h with h | ⟨c',h,hp⟩ | h
     ·cases h
     ·simp at h; subst h; exact hp
     ·simp at h; subst h; simpa using hc
    simp [hd]
theorem quoF_cut:∀ (l r:List UInt8) (m:Nat) (t:List UInt8),quoF l=some (m,t)->quoF (l.take m ++ r)=some (m,t)
 | [],_,m,t,h => by simp [quoF] at h
 | [c],r,m,t,h => by
  unfold quoF at h
  split at h
  ·rename_i hc
   simp only [Option.some.injEq,Prod.mk.injEq] at h; obtain ⟨rfl,rfl⟩:=h
   subst hc
   cases r <;> simp [quoF]
  ·cases h
 | c :: d :: r',r,m,t,h => by
  unfold quoF at h
  split at h
  ·rename_i hc
   simp only [Option.some.injEq,Prod.mk.injEq] at h; obtain ⟨rfl,rfl⟩:=h
   subst hc
   cases r <;> simp [quoF]
  ·rename_i h34
   split at h
   ·cases h
   ·rename_i hr
    split at h
    ·rename_i h92
     split at h
     ·rename_i hd
      obtain ⟨⟨m',t'⟩,h',hx⟩:=Option.map_eq_some_iff.1 h
      simp only [Prod.mk.injEq] at hx; obtain ⟨rfl,rfl⟩:=hx
      have ih:=quoF_cut r' r m' t' h'
      show quoF ((c :: d :: r').take (m' + 2) ++ r)=_
      rw [List.take_succ_cons,List.take_succ_cons,List.cons_append,List.cons_append,quoF,if_neg h34,if_neg hr,if_pos h92,if_pos hd,ih]
      rfl
     ·cases h
    ·rename_i h92
     obtain ⟨⟨m',t'⟩,h',hx⟩:=Option.map_eq_some_iff.1 h
     simp only [Prod.mk.injEq] at hx; obtain ⟨rfl,rfl⟩:=hx
     have ih:=quoF_cut (d :: r') r m' t' h'
     have hm:=(quoF_len _ _ _ h').1
     obtain ⟨k,rfl⟩:∃ k,m'=k + 1:=⟨m' - 1,by omega⟩
     show quoF ((c :: d :: r').take (k + 1 + 1) ++ r)=_
     rw [List.take_succ_cons,List.take_succ_cons,List.cons_append,List.cons_append,quoF,if_neg h34,if_neg hr,if_neg h92]
     rw [List.take_succ_cons,List.cons_append] at ih
     rw [ih]; rfl
theorem first_cut {l:List UInt8} {t:Tok} (r:List UInt8) (h:firstF l=.tok t) (hr:r=[] ∨ r.head?=some 32 ∨ r.head?=(l.drop t.len).head?):firstF (l.take t.len ++ r)=.tok t:=by
 have hl:=first_len h
 cases l with
 | nil => cases h
 | cons c l =>
  obtain ⟨k,hk⟩:∃ k,t.len=k + 1:=⟨t.len - 1,by omega⟩
  rw [first_cons] at h
  have e0:(c :: l).take t.len ++ r=c :: (l.take k ++ r):=by rw [hk,List.take_succ_cons,List.cons_append]
  split at h
  ·rename_i hd
   obtain ⟨h1,_⟩:=numT_tok h
   rw [e0]; rw [first_cons]; rw [if_pos hd,← e0,h1]
   rw [tw_cut digB (c :: l) r,h]
   rcases hr with hr | hr | hr
   ·exact .inl hr
   ·exact .inr (.inl ⟨32,hr,by decide⟩)
   ·exact .inr (.inr (by rw [← h1]; exact hr))
  ·rename_i hd
   split at h
   ·rename_i hw
    obtain ⟨h1,_⟩:=wordT_tok h
    have h2:t.len=((c :: l).takeWhile alnB).length:=by rw [h1]
    rw [e0]; rw [first_cons]; rw [if_neg hd,if_pos hw,← e0,h2]
    rw [tw_cut alnB (c :: l) r,h]
    rcases hr with hr | hr | hr
    ·exact .inl hr
    ·exact .inr (.inl ⟨32,hr,by decide⟩)
    ·exact .inr (.inr (by rw [← h2]; exact hr))
   ·rename_i hw
    split at h
    ·rename_i hq
     obtain ⟨m,u,h1,h2,rfl⟩:=quoT_tok h
     obtain rfl:m=k:=by simp at hk; exact hk
     rw [e0]; rw [first_cons]; rw [if_neg hd,if_neg hw,if_pos hq]
     unfold quoT
     rw [quoF_cut l r _ _ h1]
     simp; omega
    ·rename_i hq
     unfold sgnT at h
     split at h
     ·rename_i h2
      injection h with h; subst h
      obtain rfl:1=k:=by simp at hk; exact hk.symm
      rw [e0]; rw [first_cons]; rw [if_neg hd,if_neg hw,if_neg hq]
      unfold sgnT
      have e1:(l.take 1 ++ r).head?=some 61:=by
       cases l with
       | nil => simp at h2
       | cons d l => simpa using h2.2
      rw [if_pos ⟨h2.1,e1⟩]
     ·rename_i h2
      split at h
      ·rename_i h3
       injection h with h; subst h
       obtain rfl:0=k:=by simp at hk; exact hk.symm
       rw [e0]; rw [first_cons]; rw [if_neg hd,if_neg hw,if_neg hq]
       unfold sgnT
       rw [if_neg,if_pos h3]
       rintro ⟨g1,g2⟩
       refine h2 ⟨g1,?_⟩
       simp at g2
       rcases hr with hr | hr | hr
       ·subst hr; simp at g2
       ·rw [hr] at g2; simp at g2
       ·rw [hr] at g2; simpa using g2
      ·cases h
theorem toks_fuel:∀ (f g:Nat) (l:List UInt8) (p:Nat),l.length < f->l.length < g->toks f l p=toks g l p
 | 0,_,_,_,h,_ => absurd h (by omega)
 | _ + 1,0,_,_,_,h => absurd h (by omega)
 | f + 1,g + 1,[],p,_,_ => by simp [toks]
 | f + 1,g + 1,c :: r,p,hf,hg => by
  simp only [List.length_cons] at hf hg
  unfold toks
  split
  ·exact toks_fuel f g r (p + 1) (by omega) (by omega)
  ·split
   ·rfl
   ·rename_i t ht
    have:=first_len ht
    simp only [List.length_cons] at this
    rw [toks_fuel f g _ _ (by simp; omega) (by simp; omega)]
def tokens (l:List UInt8) (p:Nat):Res:=toks (l.length + 1) l p
theorem tokens_space (r:List UInt8) (p:Nat):tokens (32 :: r) p=tokens r (p + 1):=by
 unfold tokens; rw [List.length_cons,toks,if_pos rfl]
theorem tokens_bad {c:UInt8} {r:List UInt8} {p:Nat} {e:Int} (hc:c ≠ 32) (h:firstF (c :: r)=.bad e):tokens (c :: r) p=.bad p e:=by
 unfold tokens; rw [List.length_cons,toks,if_neg hc,h]
theorem tokens_tok {c:UInt8} {r:List UInt8} {p:Nat} {t:Tok} (hc:c ≠ 32) (h:firstF (c :: r)=.tok t):tokens (c :: r) p=(tokens ((c :: r).drop t.len) (p + t.len)).cons (mk t p (c :: r)):=by
 have:=first_len h
 simp only [List.length_cons] at this
 unfold tokens; rw [List.length_cons,toks,if_neg hc,h]
 simp only
 rw [toks_fuel (r.length + 1) (((c :: r).drop t.len).length + 1) _ _ (by simp; omega) (by omega)]
theorem tokens_ind {M:List UInt8->Nat->Res->Prop} (h0:∀ p,M [] p (.ok [])) (h1:∀ r p,M r (p + 1) (tokens r (p + 1))->M (32 :: r) p (tokens r (p + 1)))
  (h2:∀ c r p e,c ≠ 32->firstF (c :: r)=.bad e->M (c :: r) p (.bad p e))
  (h3:∀ c r p t,c ≠ 32->firstF (c :: r)=.tok t->M ((c :: r).drop t.len) (p + t.len) (tokens ((c :: r).drop t.len) (p + t.len))->M (c :: r) p ((tokens ((c :: r).drop t.len) (p + t.len)).cons (mk t p (c :: r)))) :
  ∀ (n:Nat) (l:List UInt8) (p:Nat),l.length<=n->M l p (tokens l p)
 | _,[],p,_ => h0 p
 | 0,c :: r,_,h => absurd h (by simp)
 | n + 1,c :: r,p,h => by
  simp only [List.length_cons] at h
  by_cases hc:c=32
  ·subst hc
   rw [tokens_space]
   exact h1 r p (tokens_ind h0 h1 h2 h3 n r (p + 1) (by omega))
  ·cases ht:firstF (c :: r) with
   | bad e => rw [tokens_bad hc ht]; exact h2 c r p e hc ht
   | tok t =>
    rw [tokens_tok hc ht]
    have:=first_len ht
    simp only [List.length_cons] at this
    exact h3 c r p t hc ht (tokens_ind h0 h1 h2 h3 n _ _ (by simp; omega))
theorem few (l:List UInt8) (p:Nat):∀ ts,tokens l p=.ok ts->ts.length<=l.length:=by
 refine tokens_ind (M:=fun l _ r => ∀ ts,r=.ok ts->ts.length<=l.length) ?_ ?_ ?_ ?_ l.length l p (Nat.le_refl _)
 ·intro p ts h; injection h with h; subst h; simp
 ·intro r p ih ts h; have:=ih ts h; simp; omega
 ·intro c r p e _ _ ts h; cases h
 ·intro c r p t hc ht ih ts h
  have hl:=first_len ht
  cases hr:tokens ((c :: r).drop t.len) (p + t.len) with
  | bad q e => rw [hr] at h; cases h
  | ok us =>
   rw [hr] at h; injection h with h; subst h
   have:=ih us hr
   simp only [List.length_cons,List.length_drop] at this hl ⊢
   omega
theorem cut_tok {c:UInt8} {r:List UInt8} {p:Nat} {t:Tok} (hc:c ≠ 32) (ht:firstF (c :: r)=.tok t) (u:List UInt8) (hu:u=[] ∨ u.head?=some 32 ∨ u.head?=((c :: r).drop t.len).head?) :
  tokens ((c :: r).take t.len ++ u) p=(tokens u (p + t.len)).cons (mk t p (c :: r)):=by
 have hl:=first_len ht
 simp only [List.length_cons] at hl
 have hc1:=first_cut u ht hu
 obtain ⟨j,hj⟩:∃ j,t.len=j + 1:=⟨t.len - 1,by omega⟩
 have e2:(c :: r).take t.len ++ u=c :: (r.take j ++ u):=by rw [hj,List.take_succ_cons,List.cons_append]
 have e3:((c :: r).take t.len).length=t.len:=by rw [List.length_take,List.length_cons]; omega
 rw [e2,tokens_tok hc (by rw [← e2]; exact hc1),← e2,List.drop_append_of_le_length (by omega),List.drop_eq_nil_of_le (by omega),List.nil_append]
 congr 1
 unfold mk
 rw [List.take_append_of_le_length (by omega),List.take_of_length_le (by omega)]
def Tk.bare (x:Tk):Int × List UInt8 × Int × Int × List UInt8:=(x.kind,x.s,x.vk,x.n,x.t)
def joined:List (List UInt8)->List UInt8
 | [] => []
 | [s] => s
 | s :: t :: r => s ++ 32 :: joined (t :: r)
theorem apart (l:List UInt8) (p:Nat):∀ ts,tokens l p=.ok ts->∀ q,∃ us,tokens (joined (ts.map Tk.s)) q=.ok us/\us.map Tk.bare=ts.map Tk.bare:=by
 refine tokens_ind (M:=fun l p r => ∀ ts,r=.ok ts->∀ q,∃ us,tokens (joined (ts.map Tk.s)) q=.ok us/\us.map Tk.bare=ts.map Tk.bare) ?_ ?_ ?_ ?_ l.length l p (Nat.le_refl _)
 ·intro p ts h q; injection h with h; subst h; exact ⟨[],rfl,rfl⟩
 ·intro r p ih ts h q; exact ih ts h q
 ·intro c r p e _ _ ts h; cases h
 ·intro c r p t hc ht ih ts h q
  cases hr:tokens ((c :: r).drop t.len) (p + t.len) with
  | bad q e => rw [hr] at h; cases h
  | ok ws =>
   rw [hr] at h; injection h with h; subst h
   cases ws with
   | nil =>
    refine ⟨[mk t q (c :: r)],?_,rfl⟩
    have:=cut_tok (p:=q) hc ht [] (.inl rfl)
    rw [List.append_nil] at this
    show tokens ((c :: r).take t.len) q=_
    rw [this]; rfl
   | cons x ws =>
    obtain ⟨us,h1,h2⟩:=ih (x :: ws) hr (q + t.len + 1)
    refine ⟨mk t q (c :: r) :: us,?_,?_⟩
    ·have:=cut_tok (p:=q) hc ht (32 :: joined ((x :: ws).map Tk.s)) (.inr (.inl rfl))
     rw [tokens_space,h1] at this
     show tokens ((c :: r).take t.len ++ 32 :: joined ((x :: ws).map Tk.s)) q=_
     rw [this]; rfl
    ·rw [List.map_cons,List.map_cons,h2]; rfl
def nameB (l:List UInt8):Bool:=match l with | [] => false | c :: r => lowB c && r.all alnB
def keyB (l:List UInt8):Bool:=decide (l=[97,110,100]) || decide (l=[111,114]) || decide (l=[110,111,116]) || decide (l=[116,114,117,101]) || decide (l=[102,97,108,115,101]) || decide (l=[105,102]) || decide (l=[108,101,110])
theorem take_tw (p:UInt8->Bool):∀ l:List UInt8,l.take (l.takeWhile p).length=l.takeWhile p
 | [] => rfl
 | c :: l => by
  rw [List.takeWhile_cons]
  split
  ·rw [List.length_cons,List.take_succ_cons,take_tw p l]
  ·rfl
theorem tw_id (p:UInt8->Bool):∀ l:List UInt8,l.takeWhile p=l ↔ l.all p=true
 | [] => by simp
 | c :: l => by
  rw [List.takeWhile_cons,List.all_cons]
  by_cases h:p c=true
  ·rw [if_pos h,h,Bool.true_and,← tw_id p l]; simp
  ·rw [if_neg h]; simp [h]
end LexM
namespace ExM
open ValM LexM
structure Nd where
 op:Int
 k:Int
 n:Int
 s:ByteArray
 nm:ByteArray
inductive Ex where
 | mk (d:Nd) (args:List Ex)
def Ex.d:Ex->Nd | .mk d _ => d
def Ex.args:Ex->List Ex | .mk _ l => l
theorem Ex.ind {P:Ex->Prop} (h:∀ d l,(∀ x ∈ l,P x)->P (.mk d l)):∀ x,P x
 | .mk d l => h d l (go l)
where go:∀ l:List Ex,∀ x ∈ l,P x
 | [],_,hx => absurd hx (by simp)
 | y :: r,x,hx => by
  rcases List.mem_cons.1 hx with e | hx
  ·rw [e]; exact Ex.ind h y
  ·exact go r x hx
mutual
def Ex.nodes:Ex->Nat | .mk _ l => 1 + nodesL l
def nodesL:List Ex->Nat | [] => 0 | x :: l => x.nodes + nodesL l
end
mutual
def Ex.depth:Ex->Nat | .mk _ l => depthL l + 1
def depthL:List Ex->Nat | [] => 0 | x :: l => max x.depth (depthL l)
end
mutual
def Ex.pre:Ex->List (Nd × Nat) | .mk d l => (d,l.length) :: preL l
def preL:List Ex->List (Nd × Nat) | [] => [] | x :: l => x.pre ++ preL l
end
theorem nodes_mk (d:Nd) (l:List Ex):(Ex.mk d l).nodes=1 + nodesL l:=by simp [Ex.nodes]
theorem depth_mk (d:Nd) (l:List Ex):(Ex.mk d l).depth=depthL l + 1:=by simp [Ex.depth]
theorem pre_mk (d:Nd) (l:List Ex):(Ex.mk d l).pre=(d,l.length) :: preL l:=by simp [Ex.pre]
theorem nodesL_nil:nodesL []=0:=by simp [nodesL]
theorem depthL_nil:depthL []=0:=by simp [depthL]
theorem preL_nil:preL []=[]:=by simp [preL]
theorem nodesL_cons (x:Ex) (l:List Ex):nodesL (x :: l)=x.nodes + nodesL l:=by simp [nodesL]
theorem depthL_cons (x:Ex) (l:List Ex):depthL (x :: l)=max x.depth (depthL l):=by simp [depthL]
theorem preL_cons (x:Ex) (l:List Ex):preL (x :: l)=x.pre ++ preL l:=by simp [preL]
theorem nodesL_append (l m:List Ex):nodesL (l ++ m)=nodesL l + nodesL m:=by
 induction l with
 | nil => simp [nodesL_nil]
 | cons x l ih => rw [List.cons_append,nodesL_cons,nodesL_cons,ih]; omega
theorem depthL_append (l m:List Ex):depthL (l ++ m)=max (depthL l) (depthL m):=by
 induction l with
 | nil => simp [depthL_nil]
 | cons x l ih => rw [List.cons_append,depthL_cons,depthL_cons,ih]; omega
theorem preL_append (l m:List Ex):preL (l ++ m)=preL l ++ preL m:=by
 induction l with
 | nil => simp [preL_nil]
 | cons x l ih => rw [List.cons_append,preL_cons,preL_cons,ih,List.append_assoc]
theorem nodesL_snoc (l:List Ex) (x:Ex):nodesL (l ++ [x])=nodesL l + x.nodes:=by rw [nodesL_append,nodesL_cons,nodesL_nil]; omega
theorem depthL_snoc (l:List Ex) (x:Ex):depthL (l ++ [x])=max (depthL l) x.depth:=by rw [depthL_append,depthL_cons,depthL_nil]; omega
theorem nodes_pos (x:Ex):1<=x.nodes:=by cases x; rw [nodes_mk]; omega
theorem nodesL_take (l:List Ex) (i:Nat):nodesL (l.take i)<=nodesL l:=by
 have h:=nodesL_append (l.take i) (l.drop i)
 rw [List.take_append_drop] at h; omega
theorem depthL_take (l:List Ex) (i:Nat):depthL (l.take i)<=depthL l:=by
 have h:=depthL_append (l.take i) (l.drop i)
 rw [List.take_append_drop] at h; omega
theorem take_at {α:Type} (l:List α) (i:Nat) (h:i < l.length):l.take (i + 1)=l.take i ++ [l[i]]:=by
 rw [List.take_succ_eq_append_getElem h]
theorem nodesL_at (l:List Ex) (i:Nat) (h:i < l.length):nodesL (l.take (i + 1))=nodesL (l.take i) + l[i].nodes:=by rw [take_at l i h,nodesL_snoc]
theorem depthL_at (l:List Ex) (i:Nat) (h:i < l.length):depthL (l.take (i + 1))=max (depthL (l.take i)) l[i].depth:=by rw [take_at l i h,depthL_snoc]
theorem preL_at (l:List Ex) (i:Nat) (h:i < l.length):preL (l.take (i + 1))=preL (l.take i) ++ l[i].pre:=by rw [take_at l i h,preL_append,preL_cons,preL_nil,List.append_nil]
theorem nodes_mem {l:List Ex} {x:Ex} (h:x ∈ l):x.nodes<=nodesL l:=by
 induction l with
 | nil => simp at h
 | cons y l ih =>
  rw [nodesL_cons]
  rcases List.mem_cons.1 h with e | h
  ·rw [e]; omega
  ·have:=ih h; omega
theorem depth_mem {l:List Ex} {x:Ex} (h:x ∈ l):x.depth<=depthL l:=by
 induction l with
 | nil => simp at h
 | cons y l ih =>
  rw [depthL_cons]
  rcases List.mem_cons.1 h with e | h
  ·rw [e]; omega
  ·have:=ih h; omega
theorem len_nodesL (l:List Ex):l.length<=nodesL l:=by
 induction l with
 | nil => simp
 | cons x l ih => rw [nodesL_cons,List.length_cons]; have:=nodes_pos x; omega
theorem depth_le_nodes:∀ x:Ex,x.depth<=x.nodes:=by
 refine Ex.ind fun d l ih => ?_
 rw [depth_mk,nodes_mk]
 have:depthL l<=nodesL l:=by
  clear d
  induction l with
  | nil => simp [depthL_nil]
  | cons x l ihl =>
   rw [depthL_cons,nodesL_cons]
   have h1:=ih x (by simp)
   have h2:=ihl fun y hy => ih y (by simp [hy])
   omega
 omega
theorem pre_len:∀ x:Ex,x.pre.length=x.nodes:=by
 refine Ex.ind fun d l ih => ?_
 rw [pre_mk,nodes_mk,List.length_cons]
 have:(preL l).length=nodesL l:=by
  clear d
  induction l with
  | nil => simp [preL_nil,nodesL_nil]
  | cons x l ihl => rw [preL_cons,nodesL_cons,List.length_append,ih x (by simp),ihl fun y hy => ih y (by simp [hy])]
 omega
theorem preL_len (l:List Ex):(preL l).length=nodesL l:=by
 induction l with
 | nil => simp [preL_nil,nodesL_nil]
 | cons x l ihl => rw [preL_cons,nodesL_cons,List.length_append,pre_len,ihl]
def arity (op:Int):Nat:=if op=1 ∨ op=2 then 0 else if op=3 ∨ op=4 ∨ op=18 then 1 else if op=17 then 3 else 2
def nmB (l:List UInt8):Bool:=!l.isEmpty && decide (l.length<=10) && nameB l && !keyB l
def vOk (d:Nd):Bool:=if d.op=1 then knownB d.k d.n d.s.data.toList && !(decide (d.k=1) && decide (d.n < 0)) else decide (d.k=0) && decide (d.n=0) && d.s.data.toList.isEmpty
def nmOk (d:Nd):Bool:=if d.op=2 then nmB d.nm.data.toList else d.nm.data.toList.isEmpty
def nodeE (d:Nd) (m:Nat):Int:=if d.op < 1 ∨ 18 < d.op then 2 else if m=arity d.op/\vOk d=true/\nmOk d=true then 0 else 3
def firstE:List (Nd × Nat)->Int
 | [] => 0
 | (d,m) :: l => if nodeE d m=0 then firstE l else nodeE d m
def Ex.checkE (x:Ex):Int:=if 60 < x.nodes then 1 else if 12 < x.depth then 4 else firstE x.pre
theorem firstE_cons (d:Nd) (m:Nat) (l:List (Nd × Nat)):firstE ((d,m) :: l)=if nodeE d m=0 then firstE l else nodeE d m:=rfl
theorem firstE_append (l m:List (Nd × Nat)):firstE (l ++ m)=if firstE l=0 then firstE m else firstE l:=by
 induction l with
 | nil => simp [firstE]
 | cons x l ih =>
  obtain ⟨d,j⟩:=x
  rw [List.cons_append,firstE_cons,firstE_cons,ih]
  by_cases h:nodeE d j=0
  ·rw [if_pos h,if_pos h]
  ·rw [if_neg h,if_neg h,if_neg h]
theorem firstE_mk (d:Nd) (l:List Ex):firstE (Ex.mk d l).pre=if nodeE d l.length=0 then firstE (preL l) else nodeE d l.length:=by rw [pre_mk,firstE_cons]
def Ex.okN (x:Ex):Prop:=firstE x.pre=0
theorem okN_mk (d:Nd) (l:List Ex):(Ex.mk d l).okN ↔ nodeE d l.length=0/\∀ x ∈ l,x.okN:=by
 unfold Ex.okN
 rw [firstE_mk]
 by_cases h:nodeE d l.length=0
 ·rw [if_pos h]
  simp only [h,true_and]
  induction l generalizing d with
  | nil => simp [preL_nil,firstE]
  | cons x l ih =>
   rw [preL_cons,firstE_append]
   by_cases hx:firstE x.pre=0
   ·rw [if_pos hx]
    have:firstE (preL l)=0 ↔ ∀ y ∈ l,firstE y.pre=0:=by
     clear ih h
     induction l with
     | nil => simp [preL_nil,firstE]
     | cons z l ihl =>
      rw [preL_cons,firstE_append]
      by_cases hz:firstE z.pre=0
      ·rw [if_pos hz,ihl]; simp [hz]
      ·rw [if_neg hz]; simp [hz]
    rw [this]; simp [hx]
   ·rw [if_neg hx]; simp [hx]
 ·rw [if_neg h]; simp [h]
theorem checkE_ok {x:Ex} (h1:x.nodes<=60) (h2:x.depth<=12):x.checkE=firstE x.pre:=by
 unfold Ex.checkE; rw [if_neg (by omega),if_neg (by omega)]
theorem checkE_zero {x:Ex} (h:x.checkE=0):x.nodes<=60/\x.depth<=12/\x.okN:=by
 unfold Ex.checkE at h
 by_cases h1:60 < x.nodes
 ·rw [if_pos h1] at h; exact absurd h (by decide)
 ·rw [if_neg h1] at h
  by_cases h2:12 < x.depth
  ·rw [if_pos h2] at h; exact absurd h (by decide)
  ·rw [if_neg h2] at h; exact ⟨by omega,by omega,h⟩
end ExM
namespace Within
open Go.RowKit
set_option linter.unusedVariables false
theorem ret_int {k:IntKind} {a b:Int} (h:a=b):Ending.returned (.int k a)=.returned (.int k b):=by rw [h]
def pick (n many:Int):Int:=(if n < 0 then -(n + 1) else n) % many
theorem pick_bd (n many:Int) (h:0 < many):0<=pick n many/\pick n many < many :=
 ⟨Int.emod_nonneg _ (by omega),Int.emod_lt_of_pos _ h⟩
theorem picked_any (n many:Int) (w:World) (hn:(Lit.int .i64 n).wf=true) (h:0 < many) (h2:many<=9223372036854775807) :
  Calls Tryz.prog 21 #[.int .i64 n,.int .i64 many] w fun e w' => e=.returned (.int .i64 (pick n many))/\w=w':=by
 obtain ⟨b1,b2⟩:-9223372036854775808<=n/\n<=9223372036854775807:=by
  have hh:=hn
  have hmin:IntKind.i64.min=-9223372036854775808:=rfl
  have hmax:IntKind.i64.max=9223372036854775807:=rfl
  simp only [Lit.wf,Bool.and_eq_true,decide_eq_true_eq] at hh
  omega
 clear hn
 by_cases hs:n < 0
 ·obtain ⟨p,hp⟩:∃ p,pick n many=p:=⟨_,rfl⟩
  rw [hp]
  unfold pick at hp
  rw [if_pos hs] at hp
  have HP:Hid (-(n + 1) % many=p):=hp
  clear hp
  go_enter Tryz.func21,Tryz.ntmps21
  go_wp2
  go_ret
  exact ⟨ret_int (by rw [← Int.neg_tmod,Int.tmod_eq_emod_of_nonneg (by omega)]; exact HP.out),rfl⟩
 ·obtain ⟨p,hp⟩:∃ p,pick n many=p:=⟨_,rfl⟩
  rw [hp]
  unfold pick at hp
  rw [if_neg hs] at hp
  have HP:Hid (n % many=p):=hp
  clear hp
  go_enter Tryz.func21,Tryz.ntmps21
  go_wp2
  go_ret
  exact ⟨ret_int (by first | rfl | exact HP.out),rfl⟩
end Within
namespace Clean
open Go.RowKit Go.Lib
open Kit
set_option linter.unusedVariables false
def cl (c:UInt8):UInt8:=UInt8.ofNat (32 + c.toNat % 95)
def cleanF (l:List UInt8) (m:Nat):List UInt8:=(l.take m).map cl
theorem conv (w:World) (t:ByteArray):∃ (W1:World) (cap:Nat),(convert 9 83 (.string t)).run Tryz.prog w=.ok (.slice (some ⟨w.heap.size,0,none⟩) t.size cap) W1 ∧
  (∀ j,j < t.size->W1.cell? ⟨w.heap.size,j,none⟩=some (.int .u8 (t.data.toList.getD j 0).toNat))/\(∀ j,j < t.size->W1.frozen? ⟨w.heap.size,j,none⟩=false)/\W1.heap.size=w.heap.size + 1/\Below w.heap.size w W1:=by
 refine ⟨_,_,Lib.run_convert_string_bytes (P:=Tryz.prog) w 9 83 5 t Tryz.underlying9 Tryz.underlying83 Tryz.underlying5,fun j hj => bytesWorld_cell w _ t j hj,fun j hj => ?_,bytesWorld_size w _ t,bytesWorld_below w _ t⟩
 have hle:t.size<=(bytesCells w 5 t).size:=by simp [bytesCells]
 simp only [World.frozen?,bytesWorld_at_new]
 simp
 omega
def turned (t:ByteArray) (k j:Nat):Value:=.int .u8 (if j < k then (cl (t.data.toList.getD j 0)).toNat else (t.data.toList.getD j 0).toNat:Nat)
theorem cl_val (c:UInt8):((cl c).toNat:Int)=32 + (c.toNat:Int) % 95:=by
 unfold cl
 have:(32 + c.toNat % 95) < 256:=by omega
 rw [UInt8.toNat_ofNat',Nat.mod_eq_of_lt (by simpa using this)]
 omega
structure Inv (B:Nat) (w:World) (t:ByteArray) (k:Nat) (wr:World):Prop where
 le:k<=t.size
 cell:∀ j,j < t.size->wr.cell? ⟨B,j,none⟩=some (turned t k j)
 free:∀ j,j < t.size->wr.frozen? ⟨B,j,none⟩=false
 below:Below B w wr
theorem Inv.step {B:Nat} {w:World} {t:ByteArray} {k:Nat} {wr:World} (h:Inv B w t k wr) (hk:k < t.size) :
  Inv B w t (k + 1) (wr.setCell ⟨B,k,none⟩ (.int .u8 (32 + ((t.data.toList.getD k 0).toNat:Int) % 95))) where
 le:=hk
 cell:=fun j hj => by
  by_cases e:j=k
  ·subst e
   rw [World.cell?_setCell_same _ _ _ (h.cell j hj)]
   unfold turned
   rw [if_pos (by omega),cl_val]
  ·rw [World.cell?_setCell_other _ _ _ _ (by intro g; apply e; simpa using g.symm),h.cell j hj]
   unfold turned
   by_cases g:j < k
   ·rw [if_pos g,if_pos (by omega)]
   ·rw [if_neg g,if_neg (by omega)]
 free:=fun j hj => by rw [World.frozen?_setCell]; exact h.free j hj
 below:=h.below.setCell (by simp) _
theorem core (s t:ByteArray) (m:Nat) (w:World) (hs:t.size<=1000) (hcase:(s.size<=m/\t=s) ∨ (m < s.size/\s.extract 0 m=t)) (hss:s.size<=9223372036854775807) (hm:m<=1000) :
  Calls Tryz.prog 58 #[.string s,.int .i64 m] w fun e w' => e=.returned (.string ⟨(t.data.toList.map cl).toArray⟩)/\Below w.heap.size w w':=by
 obtain ⟨W1,cap,hc,hcell,hfz,hsz,hbel⟩:=conv w t
 have h0:Inv w.heap.size w t 0 W1:=⟨Nat.zero_le _,fun j hj => by rw [hcell j hj]; unfold turned; rw [if_neg (by omega)],hfz,hbel⟩
 have H0:=Lib.hid h0
 clear hcell hfz hsz hbel h0
 rcases hcase with ⟨h1,rfl⟩ | ⟨h1,ht⟩
 all_goals
  go_enter Tryz.func58,Tryz.ntmps58
  go_wp2
  go_loopw [6,7,17] (fun _ _ i wr => ∃ k:Nat,i=.int .i64 k/\Inv w.heap.size w t k wr) (fun _ _ i _ => t.size - (intOf i).toNat)
  case atStart => exact ⟨0,rfl,H0.out⟩
  case round =>
   obtain ⟨k,rfl,hI⟩:=hrel
   by_cases hlt:k < t.size
   ·have hS:=Lib.hid (hI.step hlt)
    have hc1:=hI.cell k hlt
    have hf1:=hI.free k hlt
    have hv:turned t k k=.int .u8 ((t.data.toList.getD k 0).toNat:Nat):=by unfold turned; rw [if_neg (by omega)]
    rw [hv] at hc1
    obtain ⟨c,hcc⟩:∃ c:Nat,(t.data.toList.getD k 0).toNat=c:=⟨_,rfl⟩
    have hc256:c < 256:=by rw [← hcc]; exact (t.data.toList.getD k 0).toNat_lt
    rw [hcc] at hc1 hS
    clear hv hcc hI
    go_wp2
    go_roundw
    case rel => exact ⟨k + 1,by go_num,hS.out⟩
    case measure => simp [intOf]; omega
   ·have hk:k=t.size:=by have:=hI.le; omega
    have hback:(convert 83 9 (.slice (some ⟨w.heap.size,0,none⟩) t.size cap)).run Tryz.prog wr=.ok (.string ⟨(t.data.toList.map cl).toArray⟩) wr:=by
     have:=run_convert_bytes_back (P:=Tryz.prog) wr 83 9 5 ⟨w.heap.size,0,none⟩ cap (t.data.toList.map cl) Tryz.underlying83 Tryz.underlying5 Tryz.underlying9 (fun j hj => by
      have hj':j < t.size:=by simpa using hj
      have h2:=hI.cell j hj'
      unfold turned at h2
      rw [if_pos (by omega)] at h2
      have e:(⟨w.heap.size,0,none⟩:Addr).add j=⟨w.heap.size,j,none⟩:=by simp only [Addr.add]; simp; exact fun h => h.symm
      rw [e,h2]
      have h3:j < t.data.toList.length:=hj'
      simp [List.getD,List.getElem?_eq_getElem h3])
     have e2:(t.data.toList.map cl).length=t.size:=by simp
     rw [e2] at this
     exact this
    have hb:=hI.below
    clear hI H0
    subst hk
    go_wp2
    go_ret
    exact ⟨rfl,hb⟩
theorem clean_any (s:ByteArray) (m:Nat) (w:World) (hs:s.size<=maxLen) (hm:m<=1000) :
  Calls Tryz.prog 58 #[.string s,.int .i64 m] w fun e w' => e=.returned (.string ⟨(cleanF s.data.toList m).toArray⟩)/\Below w.heap.size w w':=by
 unfold maxLen at hs
 by_cases h:s.size<=m
 ·have:=core s s m w (by omega) (.inl ⟨h,rfl⟩) hs hm
  unfold cleanF
  rw [List.take_of_length_le h]
  exact this
 ·have e:(s.extract 0 m).data.toList=s.data.toList.take m:=by simp
  have:=core s (s.extract 0 m) m w (by simp; omega) (.inr ⟨by omega,rfl⟩) hs hm
  unfold cleanF
  rw [← e]
  exact this
end Clean
namespace RawV
open Go.RowKit
open Kit Clean Within NumM ValM
set_option linter.unusedVariables false
def vK (k:Int):Int:=if k=1 then 1 else if k=2 then 2 else 3
def vN (k rk ra:Int):Int:=if k=1 then (if pick rk 7=0 then pick ra 2199023255553 - 1099511627776 else pick ra 40 - 12) else if k=2 then pick ra 2 else 0
def vS (k:Int) (t:ByteArray):ByteArray:=if k=1 then ⟨#[]⟩ else if k=2 then ⟨#[]⟩ else ⟨(cleanF t.data.toList 8).toArray⟩
theorem clean_of (l:List UInt8) (m:Nat):cleanL (cleanF l m)=true:=by
 unfold cleanL cleanF
 rw [List.all_eq_true]
 intro c hc
 obtain ⟨d,_,rfl⟩:=List.mem_map.1 hc
 have:(cl d).toNat=32 + d.toNat % 95:=by have:=cl_val d; omega
 simp only [Bool.and_eq_true,decide_eq_true_eq]
 omega
theorem vK_type (k:Int):isT (vK k)=true:=by
 unfold vK isT
 by_cases h1:k=1
 ·rw [if_pos h1]; rfl
 ·rw [if_neg h1]
  by_cases h2:k=2
  ·rw [if_pos h2]; rfl
  ·rw [if_neg h2]; rfl
theorem v_known (k rk ra:Int) (t:ByteArray):knownB (vK k) (vN k rk ra) (vS k t).data.toList=true:=by
 have hz:valE (vK k) (vN k rk ra) (vS k t).data.toList=0:=by
  unfold vK vN vS
  by_cases h1:k=1
  ·simp only [if_pos h1]
   have a:=pick_bd ra 2199023255553 (by omega)
   have b:=pick_bd ra 40 (by omega)
   have:okN (if pick rk 7=0 then pick ra 2199023255553 - 1099511627776 else pick ra 40 - 12)=true:=by
    apply okN_iff.2
    by_cases g:pick rk 7=0
    ·rw [if_pos g]; omega
    ·rw [if_neg g]; omega
   unfold valE numE
   rw [if_pos rfl,if_pos this,if_pos rfl]; rfl
  ·simp only [if_neg h1]
   by_cases h2:k=2
   ·simp only [if_pos h2]
    have a:=pick_bd ra 2 (by omega)
    have e:numE 2 (pick ra 2)=0:=by unfold numE; rw [if_neg (by omega),if_pos rfl,if_pos (by omega)]
    unfold valE
    rw [if_pos e]; rfl
   ·simp only [if_neg h2]
    have e:numE 3 0=0:=rfl
    unfold valE
    rw [if_pos e]
    show strE 3 (cleanF t.data.toList 8)=0
    apply strE_clean
    ·unfold cleanF; rw [List.length_map,List.length_take]; omega
    ·exact clean_of _ _
 unfold knownB
 rw [vK_type,hz]; rfl
theorem value_any (k rk ra rb:Int) (t:ByteArray) (w:World) (h1:(Lit.int .i64 rk).wf=true) (h2:(Lit.int .i64 ra).wf=true) (h3:t.size<=maxLen) :
  Calls Tryz.prog 29 #[.int .i64 k,.agg #[.int .i64 rk,.int .i64 ra,.int .i64 rb,.string t]] w fun e w' => e=.returned (.agg #[.int .i64 (vK k),.int .i64 (vN k rk ra),.string (vS k t)])/\Below w.heap.size w w':=by
 by_cases e1:k=1
 ·subst e1
  have hv:vK 1=1/\vS 1 t=⟨#[]⟩:=⟨rfl,rfl⟩
  rw [hv.1,hv.2]
  clear hv
  obtain ⟨p,hp⟩:∃ p,pick rk 7=p:=⟨_,rfl⟩
  have c1:=fun W => picked_any rk 7 W h1 (by omega) (by omega)
  rw [hp] at c1
  have C1:=Lib.hid c1
  by_cases hp0:p=0
  ·have hn:vN 1 rk ra=pick ra 2199023255553 - 1099511627776:=by unfold vN; rw [if_pos rfl,hp,if_pos hp0]
   rw [hn]
   obtain ⟨q,hq⟩:∃ q,pick ra 2199023255553=q:=⟨_,rfl⟩
   have hb:=pick_bd ra 2199023255553 (by omega)
   have c2:=fun W => picked_any ra 2199023255553 W h2 (by omega) (by omega)
   rw [hq] at c2 hb ⊢
   obtain ⟨hb1,hb2⟩:=hb
   have C2:=Lib.hid c2
   subst hp0
   clear c1 c2 hp hq hn h1 h2
   go_enter Tryz.func29,Tryz.ntmps29
   go_wp2_with fail
   refine (C1.out _).mono ?_; rintro e w1 ⟨rfl,rfl⟩
   go_wp2_with fail
   refine (C2.out _).mono ?_; rintro e w1 ⟨rfl,rfl⟩
   go_wp2_with fail
   refine bodyPost_ret (v:=.agg #[.int .i64 1,.int .i64 (q - 1099511627776),.string ⟨#[]⟩]) (by simp [results,Tryz.results29,go_sem]) rfl ⟨rfl,b_more (b_new _ _) _⟩
  ·have hn:vN 1 rk ra=pick ra 40 - 12:=by unfold vN; rw [if_pos rfl,hp,if_neg hp0]
   rw [hn]
   obtain ⟨q,hq⟩:∃ q,pick ra 40=q:=⟨_,rfl⟩
   have hb:=pick_bd ra 40 (by omega)
   have c2:=fun W => picked_any ra 40 W h2 (by omega) (by omega)
   rw [hq] at c2 hb ⊢
   obtain ⟨hb1,hb2⟩:=hb
   have C2:=Lib.hid c2
   have hp1:(p == 0)=false:=beq_eq_false_iff_ne.2 hp0
   clear c1 c2 hp hq hn h1 h2 hp0
   go_enter Tryz.func29,Tryz.ntmps29
   go_wp2_with fail
   refine (C1.out _).mono ?_; rintro e w1 ⟨rfl,rfl⟩
   go_wp2_with fail
   refine (C2.out _).mono ?_; rintro e w1 ⟨rfl,rfl⟩
   go_wp2_with fail
   refine bodyPost_ret (v:=.agg #[.int .i64 1,.int .i64 (q - 12),.string ⟨#[]⟩]) (by simp [results,Tryz.results29,go_sem]) rfl ⟨rfl,b_more (b_new _ _) _⟩
 ·by_cases e2:k=2
  ·subst e2
   have hv:vK 2=2/\vS 2 t=⟨#[]⟩/\vN 2 rk ra=pick ra 2:=⟨rfl,rfl,rfl⟩
   rw [hv.1,hv.2.1,hv.2.2]
   clear hv
   obtain ⟨q,hq⟩:∃ q,pick ra 2=q:=⟨_,rfl⟩
   have c2:=fun W => picked_any ra 2 W h2 (by omega) (by omega)
   rw [hq] at c2 ⊢
   have C2:=Lib.hid c2
   clear c2 hq h1 h2 e1
   go_enter Tryz.func29,Tryz.ntmps29
   go_wp2_with fail
   refine (C2.out _).mono ?_; rintro e w1 ⟨rfl,rfl⟩
   go_wp2_with fail
   refine bodyPost_ret (v:=.agg #[.int .i64 2,.int .i64 q,.string ⟨#[]⟩]) (by simp [results,Tryz.results29,go_sem]) rfl ⟨rfl,b_more (b_new _ _) _⟩
  ·have hv:vK k=3/\vS k t=⟨(cleanF t.data.toList 8).toArray⟩/\vN k rk ra=0:=by
    unfold vK vS vN; simp [e1,e2]
   rw [hv.1,hv.2.1,hv.2.2]
   have c2:∀ W:World,Calls Tryz.prog 58 #[.string t,.int .i64 8] W fun e w' => e=.returned (.string ⟨(cleanF t.data.toList 8).toArray⟩)/\Below W.heap.size W w':=fun W => clean_any t 8 W h3 (by omega)
   obtain ⟨r,hr⟩:∃ r,ByteArray.mk (cleanF t.data.toList 8).toArray=r:=⟨_,rfl⟩
   rw [hr] at c2 ⊢
   have C2:=Lib.hid c2
   have k1:(k == 1)=false:=beq_eq_false_iff_ne.2 e1
   have k2:(k == 2)=false:=beq_eq_false_iff_ne.2 e2
   clear c2 hr h1 h2 h3 e1 e2 hv
   go_enter Tryz.func29,Tryz.ntmps29
   go_wp2_with fail
   refine (C2.out _).mono ?_; rintro e w1 ⟨rfl,hb1⟩
   obtain ⟨d0,d1⟩:=bcell hb1
   have hz:w.heap.size + 1 < w1.heap.size:=Nat.lt_of_lt_of_le (by simp) hb1.size
   go_wp2_with fail
   refine bodyPost_ret (v:=.agg #[.int .i64 3,.int .i64 0,.string r]) (by simp [results,Tryz.results29,go_sem,d0]) rfl ⟨rfl,(((b_then (b_then hb1)).setCell (by simp) _).setCell (by simp) _).setCell (by simp) _⟩
end RawV
namespace ExL
open Go.RowKit
open ExM Kit
set_option linter.unusedVariables false
def At (w:World) (a:Addr) (d:Nd) (A:Option Addr) (n c:Nat):Prop :=
 w.cell? a=some (.int .i64 d.op)/\w.cell? ⟨a.block,a.off + 1,none⟩=some (.int .i64 d.k)/\w.cell? ⟨a.block,a.off + 2,none⟩=some (.int .i64 d.n)/\w.cell? ⟨a.block,a.off + 3,none⟩=some (.string d.s)/\w.cell? ⟨a.block,a.off + 4,none⟩=some (.string d.nm)/\w.cell? ⟨a.block,a.off + 5,none⟩=some (.slice A n c)
mutual
def Is (w:World):Ex->Nd->Option Addr->Nat->Prop
 | .mk d l,d',A,n => d'=d/\n=l.length/\(n<=maxLen/\d.s.size<=maxLen/\d.nm.size<=maxLen)/\IsL w A 0 l
def IsL (w:World) (A:Option Addr):Nat->List Ex->Prop
 | _,[] => True
 | i,x :: l => (∃ a d B n c,A=some a/\At w (a.add (i * 6)) d B n c/\Is w x d B n)/\IsL w A (i + 1) l
end
theorem isL_at {w:World} {A:Option Addr}:∀ {l:List Ex} {i:Nat},IsL w A i l->∀ (j:Nat) (h:j < l.length),∃ a d B n c,A=some a/\At w (a.add ((i + j) * 6)) d B n c/\Is w l[j] d B n
 | [],_,_,j,h => absurd h (by simp)
 | x :: l,i,hl,j,h => by
  rw [IsL] at hl
  match j,h with
  | 0,_ => exact hl.1
  | j + 1,h =>
   have:=isL_at hl.2 j (by simpa using h)
   rw [show i + 1 + j=i + (j + 1) by omega] at this
   exact this
theorem block_of_add (a:Addr) (n:Nat):(a.add n).block=a.block:=by unfold Addr.add; split <;> rfl
theorem cell_lt' {w:World} {a:Addr} {v:Value} (h:w.cell? a=some v):a.block < w.heap.size:=by
 rcases Nat.lt_or_ge a.block w.heap.size with hl | hg
 ·exact hl
 ·unfold World.cell? at h; rw [Array.getElem?_eq_none hg] at h; cases h
theorem At.keep {w w':World} {a:Addr} {d:Nd} {A:Option Addr} {n c:Nat} (h:At w a d A n c) (hk:∀ p:Addr,p.block=a.block->w'.cell? p=w.cell? p):At w' a d A n c:=by
 obtain ⟨h0,h1,h2,h3,h4,h5⟩:=h
 exact ⟨(hk a rfl).trans h0,(hk ⟨a.block,a.off + 1,none⟩ rfl).trans h1,(hk ⟨a.block,a.off + 2,none⟩ rfl).trans h2,(hk ⟨a.block,a.off + 3,none⟩ rfl).trans h3,(hk ⟨a.block,a.off + 4,none⟩ rfl).trans h4,(hk ⟨a.block,a.off + 5,none⟩ rfl).trans h5⟩
theorem At.lt {w:World} {a:Addr} {d:Nd} {A:Option Addr} {n c:Nat} (h:At w a d A n c):a.block < w.heap.size:=cell_lt' h.1
theorem At.below {w w':World} {a:Addr} {d:Nd} {A:Option Addr} {n c:Nat} (h:At w a d A n c) (hb:Below w.heap.size w w'):At w' a d A n c:=h.keep fun p hp => hb.cell (by rw [hp]; exact h.lt)
theorem isL_of {w:World} {A:Option Addr}:∀ {l:List Ex} {i:Nat},(∀ (j:Nat) (h:j < l.length),∃ a d B n c,A=some a/\At w (a.add ((i + j) * 6)) d B n c/\Is w l[j] d B n)->IsL w A i l
 | [],_,_ => by rw [IsL]; trivial
 | x :: l,i,h => by
  rw [IsL]
  refine ⟨h 0 (by simp),isL_of fun j hj => ?_⟩
  have:=h (j + 1) (by simpa using hj)
  rw [show i + (j + 1)=i + 1 + j by omega] at this
  exact this
theorem is_mk {w:World} {d d':Nd} {l:List Ex} {A:Option Addr} {n:Nat}:Is w (.mk d l) d' A n ↔ d'=d/\n=l.length/\(n<=maxLen/\d.s.size<=maxLen/\d.nm.size<=maxLen)/\∀ (j:Nat) (h:j < l.length),∃ a d B n c,A=some a/\At w (a.add (j * 6)) d B n c/\Is w l[j] d B n:=by
 rw [Is]
 refine ⟨fun ⟨h1,h2,h3,h4⟩ => ⟨h1,h2,h3,fun j hj => by have:=isL_at h4 j hj; rwa [Nat.zero_add] at this⟩,fun ⟨h1,h2,h3,h4⟩ => ⟨h1,h2,h3,isL_of fun j hj => by rw [Nat.zero_add]; exact h4 j hj⟩⟩
theorem Is.keep {w w':World} (hk:∀ p:Addr,p.block < w.heap.size->w'.cell? p=w.cell? p):∀ (x:Ex) (d:Nd) (A:Option Addr) (n:Nat),Is w x d A n->Is w' x d A n:=by
 refine Ex.ind fun d l ih => ?_
 intro d' A n h
 rw [is_mk] at h ⊢
 obtain ⟨h1,h2,h3,h4⟩:=h
 refine ⟨h1,h2,h3,fun j hj => ?_⟩
 obtain ⟨a,d2,B,m,c,e,ha,hi⟩:=h4 j hj
 exact ⟨a,d2,B,m,c,e,ha.keep fun p hp => hk p (by rw [hp]; exact ha.lt),ih _ (List.getElem_mem _) _ _ _ hi⟩
theorem Is.below {w w':World} {x:Ex} {d:Nd} {A:Option Addr} {n:Nat} (h:Is w x d A n) (hb:Below w.heap.size w w'):Is w' x d A n:=Is.keep (fun _ hp => hb.cell hp) x d A n h
theorem Is.alloc {w:World} {x:Ex} {d:Nd} {A:Option Addr} {n:Nat} (h:Is w x d A n) (o:Obj):Is (w.alloc o) x d A n:=h.below (b_new w o)
theorem int_max (q t:Nat):Value.int .i64 (if q < t then (t:Int) else q)=.int .i64 ((max q t:Nat):Int):=by
 by_cases h:q < t
 ·rw [if_pos h,Nat.max_eq_right (by omega)]
 ·rw [if_neg h,Nat.max_eq_left (by omega)]
set_option maxHeartbeats 1000000 in
theorem size_any:∀ (x:Ex) (d:Nd) (A:Option Addr) (n c:Nat) (w:World),x.nodes<=1000000000000->Is w x d A n →
  Calls Tryz.prog 89 #[.agg #[.int .i64 d.op,.int .i64 d.k,.int .i64 d.n,.string d.s,.string d.nm,.slice A n c]] w fun e w' => e=.returned (.tuple #[.int .i64 (x.nodes:Int),.int .i64 (x.depth:Int)])/\Below w.heap.size w w':=by
 refine Ex.ind fun d l ih => ?_
 intro d' A n c w hx his
 rw [is_mk] at his
 obtain ⟨rfl,rfl,⟨hm,_⟩,his⟩:=his
 have hlen:=len_nodesL l
 have hdn:=depth_le_nodes (Ex.mk d' l)
 rw [depth_mk] at hdn
 rw [nodes_mk] at hx hdn
 obtain ⟨N,hN⟩:∃ N,nodesL l=N:=⟨_,rfl⟩
 obtain ⟨D,hD⟩:∃ D,depthL l=D:=⟨_,rfl⟩
 have e1:((Ex.mk d' l).nodes:Int)=((1 + N:Nat):Int):=by rw [nodes_mk,hN]
 have e2:((Ex.mk d' l).depth:Int)=((D + 1:Nat):Int):=by rw [depth_mk,hD]
 rw [e1,e2]
 rw [hN] at hx hdn hlen
 rw [hD] at hdn
 clear e1 e2
 have HN:=Lib.hid hN
 have HD:=Lib.hid hD
 have HS:=Lib.hid his
 have HI:=Lib.hid ih
 clear hN hD his ih
 unfold maxLen at hm
 go_enter Tryz.func89,Tryz.ntmps89
 go_wp2_with fail
 go_loopw [4,5,7,8,9,13] (fun cnt dp _ _ _ i wr => ∃ (k p q:Nat),i=.int .i64 k/\k<=l.length/\Below w.heap.size w wr/\cnt=.int .i64 (p:Int)/\dp=.int .i64 (q:Int)/\p=1 + nodesL (l.take k)/\q=depthL (l.take k)) (fun _ _ _ _ _ i _ => l.length - (intOf i).toNat)
 case atStart => exact ⟨0,1,0,rfl,Nat.zero_le _,b_new _ _,rfl,rfl,by simp [nodesL_nil],by simp [depthL_nil]⟩
 case round =>
  obtain ⟨k,p,q,rfl,hk,hb,rfl,rfl,hp,hq⟩:=hrel
  have hpb:p<=1 + N:=by rw [hp,← HN.out]; have:=nodesL_take l k; omega
  have hqb:q<=D:=by rw [hq,← HD.out]; exact depthL_take l k
  have HP:=Lib.hid hp
  have HQ:=Lib.hid hq
  clear hp hq
  by_cases hlt:k < l.length
  ·obtain ⟨a,d2,B,m,c2,rfl,hat,hi⟩:=HS.out k hlt
   obtain ⟨h0,h1,h2,h3,h4,h5⟩:=hat.below hb
   have hi2:=(hi.below hb).alloc (.cells #[.int .i64 d2.op,.int .i64 d2.k,.int .i64 d2.n,.string d2.s,.string d2.nm,.slice B m c2] 41)
   have hxn:l[k].nodes<=N:=by rw [← HN.out]; exact nodes_mem (List.getElem_mem _)
   have hxd:l[k].depth<=D:=by rw [← HD.out]; exact depth_mem (List.getElem_mem _)
   obtain ⟨s,hs⟩:∃ s,l[k].nodes=s:=⟨_,rfl⟩
   obtain ⟨t,ht⟩:∃ t,l[k].depth=t:=⟨_,rfl⟩
   have hp2:p + s=1 + nodesL (l.take (k + 1)):=by rw [nodesL_at l k hlt,HP.out,hs]; omega
   have hq2:max q t=depthL (l.take (k + 1)):=by rw [depthL_at l k hlt,HQ.out,ht]
   have hpb2:p + s<=1 + N:=by rw [hp2,← HN.out]; have:=nodesL_take l (k + 1); omega
   have hc:=HI.out _ (List.getElem_mem hlt) d2 B m c2 _ (by omega) hi2
   rw [hs,ht] at hc
   rw [hs] at hxn
   rw [ht] at hxd
   have HC:=Lib.hid hc
   have HP2:=Lib.hid hp2
   have HQ2:=Lib.hid hq2
   have HB:=Lib.hid hb
   clear hc hp2 hq2 hs ht hi hi2 hat hb
   go_wp2_with fail
   refine HC.out.mono ?_; rintro e w2 ⟨rfl,hb2⟩
   have hb3:Below w.heap.size w w2:=HB.out.trans ((b_then hb2).mono HB.out.size)
   have hcell:=hb2.cell (p:=⟨w.heap.size,5,none⟩) (by have:=HB.out.size; simp; omega)
   have HB3:=Lib.hid hb3
   clear hb2 hb3 hcell
   go_wp2_with fail
   go_roundw
   case rel => exact ⟨k + 1,p + s,max q t,by go_num,by omega,HB3.out,by go_num,int_max q t,HP2.out,HQ2.out⟩
   case measure => simp [intOf]; omega
  ·have hkl:k=l.length:=by omega
   have hp2:p=1 + N:=by rw [HP.out,hkl,List.take_length,HN.out]
   have hq2:q=D:=by rw [HQ.out,hkl,List.take_length,HD.out]
   have HP2:=Lib.hid hp2
   have HQ2:=Lib.hid hq2
   clear hkl hp2 hq2
   go_wp2_with fail
   go_ret2
   exact ⟨by rw [HP2.out,HQ2.out]; rfl,hb⟩
end ExL
namespace ExP
open Go.RowKit
open ExM Kit ExL
set_option linter.unusedVariables false
mutual
def IsP (P:Nat->Prop) (w:World):Ex->Nd->Option Addr->Nat->Prop
 | .mk d l,d',A,n => d'=d/\n=l.length/\(n<=maxLen/\d.s.size<=maxLen/\d.nm.size<=maxLen)/\IsPL P w A 0 l
def IsPL (P:Nat->Prop) (w:World) (A:Option Addr):Nat->List Ex->Prop
 | _,[] => True
 | i,x :: l => (∃ a d B n c,A=some a/\P a.block/\At w (a.add (i * 6)) d B n c/\IsP P w x d B n)/\IsPL P w A (i + 1) l
end
theorem isPL_at {P:Nat->Prop} {w:World} {A:Option Addr}:∀ {l:List Ex} {i:Nat},IsPL P w A i l->∀ (j:Nat) (h:j < l.length),∃ a d B n c,A=some a/\P a.block/\At w (a.add ((i + j) * 6)) d B n c/\IsP P w l[j] d B n
 | [],_,_,j,h => absurd h (by simp)
 | x :: l,i,hl,j,h => by
  rw [IsPL] at hl
  match j,h with
  | 0,_ => exact hl.1
  | j + 1,h =>
   have:=isPL_at hl.2 j (by simpa using h)
   rw [show i + 1 + j=i + (j + 1) by omega] at this
   exact this
theorem isPL_of {P:Nat->Prop} {w:World} {A:Option Addr}:∀ {l:List Ex} {i:Nat},(∀ (j:Nat) (h:j < l.length),∃ a d B n c,A=some a/\P a.block/\At w (a.add ((i + j) * 6)) d B n c/\IsP P w l[j] d B n)->IsPL P w A i l
 | [],_,_ => by rw [IsPL]; trivial
 | x :: l,i,h => by
  rw [IsPL]
  refine ⟨h 0 (by simp),isPL_of fun j hj => ?_⟩
  have:=h (j + 1) (by simpa using hj)
  rw [show i + (j + 1)=i + 1 + j by omega] at this
  exact this
theorem isP_mk {P:Nat->Prop} {w:World} {d d':Nd} {l:List Ex} {A:Option Addr} {n:Nat}:IsP P w (.mk d l) d' A n ↔ d'=d/\n=l.length/\(n<=maxLen/\d.s.size<=maxLen/\d.nm.size<=maxLen)/\∀ (j:Nat) (h:j < l.length),∃ a d B n c,A=some a/\P a.block/\At w (a.add (j * 6)) d B n c/\IsP P w l[j] d B n:=by
 rw [IsP]
 refine ⟨fun ⟨h1,h2,h3,h4⟩ => ⟨h1,h2,h3,fun j hj => by have:=isPL_at h4 j hj; rwa [Nat.zero_add] at this⟩,fun ⟨h1,h2,h3,h4⟩ => ⟨h1,h2,h3,isPL_of fun j hj => by rw [Nat.zero_add]; exact h4 j hj⟩⟩
theorem IsP.is {P:Nat->Prop} {w:World}:∀ (x:Ex) (d:Nd) (A:Option Addr) (n:Nat),IsP P w x d A n->Is w x d A n:=by
 refine Ex.ind fun d l ih => ?_
 intro d' A n h
 rw [isP_mk] at h
 rw [is_mk]
 obtain ⟨h1,h2,h3,h4⟩:=h
 refine ⟨h1,h2,h3,fun j hj => ?_⟩
 obtain ⟨a,d2,B,m,c,e,_,ha,hi⟩:=h4 j hj
 exact ⟨a,d2,B,m,c,e,ha,ih _ (List.getElem_mem _) _ _ _ hi⟩
theorem At.of_block {w w':World} {p:Addr} {d:Nd} {A:Option Addr} {n c:Nat} (h:At w p d A n c) (hb:w'.heap[p.block]?=w.heap[p.block]?):At w' p d A n c :=
 h.keep fun q hq => World.cell?_of_block (by rw [hq]; exact hb)
theorem IsP.keep {P Q:Nat->Prop} {w w':World} (hk:∀ b,P b->b < w.heap.size->w'.heap[b]?=w.heap[b]?) (hq:∀ b,P b->b < w.heap.size->Q b):∀ (x:Ex) (d:Nd) (A:Option Addr) (n:Nat),IsP P w x d A n->IsP Q w' x d A n:=by
 refine Ex.ind fun d l ih => ?_
 intro d' A n h
 rw [isP_mk] at h ⊢
 obtain ⟨h1,h2,h3,h4⟩:=h
 refine ⟨h1,h2,h3,fun j hj => ?_⟩
 obtain ⟨a,d2,B,m,c,e,hp,ha,hi⟩:=h4 j hj
 have hlt:=ha.lt
 rw [block_of_add] at hlt
 exact ⟨a,d2,B,m,c,e,hq _ hp hlt,At.of_block ha (by rw [block_of_add]; exact hk _ hp hlt),ih _ (List.getElem_mem _) _ _ _ hi⟩
theorem IsP.below {P:Nat->Prop} {w w':World} {x:Ex} {d:Nd} {A:Option Addr} {n:Nat} (h:IsP P w x d A n) (hb:Below w.heap.size w w'):IsP P w' x d A n:=IsP.keep (fun b _ hl => hb.block b hl) (fun _ h _ => h) x d A n h
theorem IsP.imp {P Q:Nat->Prop} {w:World} {x:Ex} {d:Nd} {A:Option Addr} {n:Nat} (h:IsP P w x d A n) (hq:∀ b,P b->b < w.heap.size->Q b):IsP Q w x d A n:=IsP.keep (fun _ _ _ => rfl) hq x d A n h
theorem isP_leaf (P:Nat->Prop) (w:World) (d:Nd) (A:Option Addr) (hs:d.s.size<=maxLen) (hn:d.nm.size<=maxLen):IsP P w (.mk d []) d A 0:=isP_mk.2 ⟨rfl,rfl,⟨Nat.zero_le _,hs,hn⟩,fun j hj => absurd hj (by simp)⟩
structure El where
 x:Ex
 d:Nd
 A:Option Addr
 n:Nat
 c:Nat
def El.cells (e:El):List Value:=[.int .i64 e.d.op,.int .i64 e.d.k,.int .i64 e.d.n,.string e.d.s,.string e.d.nm,.slice e.A e.n e.c]
def elC (es:List El):List Value:=es.flatMap El.cells
theorem elC_snoc (es:List El) (e:El):elC (es ++ [e])=elC es ++ e.cells:=by unfold elC; rw [List.flatMap_append]; simp
theorem elC_at (es:List El):∀ (i:Nat) (h:i < es.length) (j:Nat),j < 6->(elC es)[i * 6 + j]?=(es[i]).cells[j]?:=by
 induction es with
 | nil => intro i h; simp at h
 | cons e es ih =>
  intro i h j hj
  have e1:elC (e :: es)=e.cells ++ elC es:=by unfold elC; rw [List.flatMap_cons]
  rw [e1]
  cases i with
  | zero => rw [List.getElem?_append_left (by simp [El.cells]; omega)]; simp
  | succ i =>
   rw [List.getElem?_append_right (by simp [El.cells]; omega),show (i + 1) * 6 + j - e.cells.length=i * 6 + j by simp [El.cells]; omega]
   simpa using ih i (by simpa using h) j hj
theorem add_block (g i:Nat):((⟨g,0,none⟩:Addr).add i)=⟨g,i,none⟩:=by unfold Addr.add; by_cases h:i=0 <;> simp [h]
theorem isP_row {P:Nat->Prop} {w:World} {d:Nd} {es:List El} {g:Nat} (hc:∀ j,j < es.length * 6->w.cell? ⟨g,j,none⟩=(elC es)[j]?) (hP:P g) (hl:es.length<=maxLen) (hs:d.s.size<=maxLen) (hn:d.nm.size<=maxLen)
  (hi:∀ e ∈ es,IsP P w e.x e.d e.A e.n):IsP P w (.mk d (es.map El.x)) d (some ⟨g,0,none⟩) es.length:=by
 rw [isP_mk]
 refine ⟨rfl,by simp,⟨hl,hs,hn⟩,fun j hj => ?_⟩
 have hj':j < es.length:=by simpa using hj
 have f:=fun i (h6:i < 6) => (hc (j * 6 + i) (by omega)).trans (elC_at es j hj' i h6)
 refine ⟨⟨g,0,none⟩,es[j].d,es[j].A,es[j].n,es[j].c,rfl,hP,?_,by simpa using hi es[j] (List.getElem_mem _)⟩
 rw [add_block]
 exact ⟨f 0 (by decide),f 1 (by decide),f 2 (by decide),f 3 (by decide),f 4 (by decide),f 5 (by decide)⟩
end ExP
namespace ExS
open Go.RowKit
open ExM Kit ExL
set_option linter.unusedVariables false
def Row (w:World) (A:Option Addr) (l:List Ex):Prop:=∀ (j:Nat) (h:j < l.length),∃ a d B n c,A=some a/\At w (a.add (j * 6)) d B n c/\Is w l[j] d B n
theorem Row.below {w w':World} {A:Option Addr} {l:List Ex} (h:Row w A l) (hb:Below w.heap.size w w'):Row w' A l:=fun j hj => by
 obtain ⟨a,d,B,n,c,e,ha,hi⟩:=h j hj
 exact ⟨a,d,B,n,c,e,ha.below hb,hi.below hb⟩
theorem is_d {w:World} {x:Ex} {d:Nd} {A:Option Addr} {n:Nat} (h:Is w x d A n):d=x.d:=by
 cases x; rw [is_mk] at h; exact h.1
end ExS
namespace RawL
open Go.RowKit
open ValM LexM NumM ExM Kit ExL RawV Within
set_option linter.unusedVariables false
def Raws (w:World) (A:Option Addr) (n c:Nat):Prop :=
 n<=c/\c<=maxLen/\∀ i,i < n->∃ (a:Addr) (k x y:Int) (t:ByteArray),A=some a/\w.cell? (a.add (i * 4))=some (.int .i64 k)/\w.cell? ⟨(a.add (i * 4)).block,(a.add (i * 4)).off + 1,none⟩=some (.int .i64 x)/\w.cell? ⟨(a.add (i * 4)).block,(a.add (i * 4)).off + 2,none⟩=some (.int .i64 y)/\w.cell? ⟨(a.add (i * 4)).block,(a.add (i * 4)).off + 3,none⟩=some (.string t) ∧
  (Lit.int .i64 k).wf=true/\(Lit.int .i64 x).wf=true/\(Lit.int .i64 y).wf=true/\t.size<=maxLen
def Gen (w:World) (G:Nat) (A:Option Addr) (n c:Nat) (at_:Nat):Prop:=w.heap[G]?=some (.cells #[.slice A n c,.int .i64 (at_:Int)] 79 (0,0))
theorem Gen.cells {w:World} {G:Nat} {A:Option Addr} {n c a:Nat} (h:Gen w G A n c a):w.cell? ⟨G,0,none⟩=some (.slice A n c)/\w.cell? ⟨G,1,none⟩=some (.int .i64 (a:Int))/\w.frozen? ⟨G,1,none⟩=false:=by
 unfold Gen at h
 refine ⟨?_,?_,?_⟩ <;> simp [World.cell?,World.frozen?,h]
theorem Gen.lt {w:World} {G:Nat} {A:Option Addr} {n c a:Nat} (h:Gen w G A n c a):G < w.heap.size:=(Array.getElem?_eq_some_iff.1 h).1
theorem Gen.below {w w':World} {G:Nat} {A:Option Addr} {n c a:Nat} (h:Gen w G A n c a) (hb:Below w.heap.size w w'):Gen w' G A n c a:=(hb.block G h.lt).trans h
theorem Gen.alloc {w:World} {G:Nat} {A:Option Addr} {n c a:Nat} (h:Gen w G A n c a) (o:Obj):Gen (w.alloc o) G A n c a:=h.below (b_new w o)
theorem Gen.none2 {w:World} {G:Nat} {A:Option Addr} {n c a:Nat} (h:Gen w G A n c a) (j:Nat):w.cell? ⟨G,j + 2,none⟩=none:=by
 unfold Gen at h
 simp [World.cell?,h]
abbrev Gr (G:Nat) (w w':World):Prop:=w.grownBy w' (some G)
theorem Gr.of_below {G:Nat} {w w':World} (h:Below w.heap.size w w'):Gr G w w':=⟨h.os,h.tape,h.output,h.size,fun k hk _ => h.block k hk⟩
theorem Gr.refl (G:Nat) (w:World):Gr G w w:=Gr.of_below (Below.refl _ _)
theorem Gr.trans {G:Nat} {a b c:World} (h:Gr G a b) (g:Gr G b c):Gr G a c:=⟨g.os.trans h.os,g.tape.trans h.tape,g.output.trans h.output,Nat.le_trans h.size g.size,fun k hk hne => (g.block k (Nat.lt_of_lt_of_le hk h.size) hne).trans (h.block k hk hne)⟩
theorem Gen.step {w:World} {G:Nat} {A:Option Addr} {n c a:Nat} (h:Gen w G A n c a):Gen (w.setCell ⟨G,1,none⟩ (.int .i64 ((a:Int) + 1))) G A n c (a + 1)/\Gr G w (w.setCell ⟨G,1,none⟩ (.int .i64 ((a:Int) + 1))):=by
 refine ⟨?_,rfl,rfl,rfl,by simp [World.setCell],fun k _ hk => Below.heap_setCell _ _ _ k (fun e => hk (by rw [e]))⟩
 unfold Gen at h ⊢
 simp [World.setCell,Array.getElem?_modify,h]
end RawL
namespace GenL
open Go.RowKit
open ValM LexM NumM ExM Kit ExL RawV Within RawL
set_option linter.unusedVariables false
theorem own_below {w w1:World} {base:Nat} {e:TypeId} {size:Nat} {v:Value} {n:Nat} {xs:List Value} (h:w.ownsRow base e size v n xs) (hb:Below w.heap.size w w1):w1.ownsRow base e size v n xs :=
 h.kept (row:=none) ⟨hb.os,hb.tape,hb.output,hb.size,fun k hk _ => hb.block k hk⟩ (by cases hv:v.ownBlock <;> simp)
theorem own_slice {w:World} {base:Nat} {e:TypeId} {size:Nat} {v:Value} {n:Nat} {xs:List Value} (h:w.ownsRow base e size v n xs):∃ A c,v=.slice A n c:=by
 rcases h.2 with ⟨h1,h2⟩ | ⟨g,cap,cur,h1,_⟩
 ·exact ⟨none,0,by rw [h2]; exact h1⟩
 ·exact ⟨some ⟨g,0,none⟩,cap,h1⟩
theorem own_form {w:World} {base:Nat} {e:TypeId} {size:Nat} {v:Value} {n:Nat} {xs:List Value} (h:w.ownsRow base e size v n xs) (hn:0 < n) :
  ∃ g cap,v=.slice (some ⟨g,0,none⟩) n cap/\base<=g/\g < w.heap.size/\n<=cap/\cap<=maxLen/\∀ j,j < n * size->w.cell? ⟨g,j,none⟩=xs[j]?:=by
 rcases h.2 with ⟨_,h2⟩ | ⟨g,cap,cur,h1,h2,h3,h4,h5,_⟩
 ·omega
 ·subst h1
  have hl:=h.lt g rfl
  exact ⟨g,cap,rfl,h2,hl.2,h4,h5,fun j hj => h.cellAt j hj⟩
theorem b_set {w w1:World} {p:Addr} {v:Value} (h:Below w.heap.size w w1) (hp:w.heap.size<=p.block):Below w.heap.size w (w1.setCell p v):=h.setCell hp v
theorem known_int {n:Int} (h:okN n=true):knownB 1 n []=true:=by
 unfold knownB valE numE; rw [if_pos rfl,h]; rfl
structure Fd where
 nm:ByteArray
 kind:Int
 ty:Int
 d:Nd
 A:Option Addr
 n:Nat
 c:Nat
def FdAt (w:World) (p:Addr) (f:Fd):Prop :=
 w.cell? p=some (.string f.nm)/\w.cell? ⟨p.block,p.off + 1,none⟩=some (.int .i64 f.kind)/\w.cell? ⟨p.block,p.off + 2,none⟩=some (.int .i64 f.ty)/\w.cell? ⟨p.block,p.off + 3,none⟩=some (.int .i64 f.d.op)/\w.cell? ⟨p.block,p.off + 4,none⟩=some (.int .i64 f.d.k)/\w.cell? ⟨p.block,p.off + 5,none⟩=some (.int .i64 f.d.n)/\w.cell? ⟨p.block,p.off + 6,none⟩=some (.string f.d.s)/\w.cell? ⟨p.block,p.off + 7,none⟩=some (.string f.d.nm)/\w.cell? ⟨p.block,p.off + 8,none⟩=some (.slice f.A f.n f.c)
theorem FdAt.of_block {w w':World} {p:Addr} {f:Fd} (h:FdAt w p f) (hb:w'.heap[p.block]?=w.heap[p.block]?):FdAt w' p f:=by
 obtain ⟨h0,h1,h2,h3,h4,h5,h6,h7,h8⟩:=h
 exact ⟨(World.cell?_of_block hb).trans h0,(World.cell?_of_block (a:=⟨p.block,p.off + 1,none⟩) hb).trans h1,(World.cell?_of_block (a:=⟨p.block,p.off + 2,none⟩) hb).trans h2,(World.cell?_of_block (a:=⟨p.block,p.off + 3,none⟩) hb).trans h3,(World.cell?_of_block (a:=⟨p.block,p.off + 4,none⟩) hb).trans h4,(World.cell?_of_block (a:=⟨p.block,p.off + 5,none⟩) hb).trans h5,(World.cell?_of_block (a:=⟨p.block,p.off + 6,none⟩) hb).trans h6,(World.cell?_of_block (a:=⟨p.block,p.off + 7,none⟩) hb).trans h7,(World.cell?_of_block (a:=⟨p.block,p.off + 8,none⟩) hb).trans h8⟩
theorem FdAt.lt {w:World} {p:Addr} {f:Fd} (h:FdAt w p f):p.block < w.heap.size:=cell_lt' h.1
def Flds (w:World) (A:Option Addr) (fs:List Fd):Prop:=∀ (i:Nat) (h:i < fs.length),∃ a,A=some a/\FdAt w (a.add (i * 9)) fs[i]
theorem Flds.below {w w':World} {A:Option Addr} {fs:List Fd} (h:Flds w A fs) (hb:Below w.heap.size w w'):Flds w' A fs:=fun i hi => by
 obtain ⟨a,e,hf⟩:=h i hi
 exact ⟨a,e,hf.of_block (hb.block _ hf.lt)⟩
theorem Gr.flds {G:Nat} {w w':World} {A A':Option Addr} {fs:List Fd} {n' c' a:Nat} (h:Gr G w w') (hg:Gen w G A' n' c' a) (hf:Flds w A fs):Flds w' A fs:=fun i hi => by
 obtain ⟨ad,e,hf⟩:=hf i hi
 refine ⟨ad,e,hf.of_block (h.block _ hf.lt (fun e => ?_))⟩
 injection e with e
 have h2:=hf.2.2.1
 rw [e,hg.none2] at h2; cases h2
theorem Gen.far {w:World} {G:Nat} {A:Option Addr} {n c a:Nat} {p:Addr} (h:Gen w G A n c a) (hp:G ≠ p.block) (v:Value):Gen (w.setCell p v) G A n c a:=(Below.heap_setCell w p v G hp).trans h
theorem Gr.set {G:Nat} {w w1:World} {p:Addr} {v:Value} (h:Gr G w w1) (hp:w.heap.size<=p.block):Gr G w (w1.setCell p v) :=
 ⟨h.os,h.tape,h.output,by simp [World.setCell]; exact h.size,fun k hk hne => (Below.heap_setCell w1 p v k (by omega)).trans (h.block k hk hne)⟩
def LeafD (fs:List Fd) (kind:Int) (d:Nd):Prop :=
 (d.op=1/\d.nm=⟨#[]⟩/\d.k=vK kind/\knownB d.k d.n d.s.data.toList=true/\(d.k=1->0<=d.n)) ∨
 (d.op=2/\d.k=0/\d.n=0/\d.s=⟨#[]⟩/\∃ f ∈ fs,f.nm=d.nm/\f.ty=kind)
end GenL
end Go.Proofs.YtonlkmkfcaadlaaGreatDoor
