/- Ps PsRun PsList PsAtom: what these laws name of them. -/
import Derived.Test.YtjhhmdmmllblhaaGreatDoorKt19
namespace Go.Proofs.YtjhhmdmmllblhaaGreatDoor
set_option linter.unusedVariables false
namespace Ps
open Go.RowKit
open LexM ExM Kit ExL ExP PsM PsT NmC
set_option linter.unusedVariables false
def tkC (x:Tk):List Value:=[.int .i64 x.kind,.int .i64 x.pos,.string ⟨x.s.toArray⟩,.int .i64 x.vk,.int .i64 x.n,.string ⟨x.t.toArray⟩]
def tkV (x:Tk):Value:=.agg #[.int .i64 x.kind,.int .i64 x.pos,.string ⟨x.s.toArray⟩,.int .i64 x.vk,.int .i64 x.n,.string ⟨x.t.toArray⟩]
/-- What leaf answers of a token. -/
def LeafOut (t : Tk) (W : World) (e : Ending) (w' : World) : Prop :=
  ((∃ x, leafN t = some x ∧ e = .returned (.tuple #[.agg #[.int .i64 x.d.op, .int .i64 x.d.k, .int .i64 x.d.n, .string x.d.s, .string x.d.nm, .slice none 0 0], .bool true])) ∨
   (leafN t = none ∧ e = .returned (.tuple #[.agg #[.int .i64 0, .int .i64 0, .int .i64 0, .string ⟨#[]⟩, .string ⟨#[]⟩, .slice none 0 0], .bool false]))) ∧ Below W.heap.size W w'
structure Env (w0:World) (P:Nat) (A:Option Addr) (L:List Tk):Prop where
 len:L.length<=160
 cells:∀ (i:Nat) (h:i < L.length),∃ g,A=some ⟨g,0,none⟩/\∀ j,j < 6->w0.cell? ⟨g,i * 6 + j,none⟩=(tkC L[i])[j]?
 hP:w0.heap.size<=P
 tab : NotTab.Is Tryz.prog w0 "lychway/expr.notations" NotTab.rows
 leaf:∀ t ∈ L,∀ W,Below w0.heap.size w0 W->Calls Tryz.prog 197 #[tkV t] W (LeafOut t W)
structure St (w0:World) (P:Nat) (A:Option Addr) (c:Nat) (L:List Tk) (w:World) (k:Nat):Prop where
 prs:w.heap[P]?=some (.cells #[.slice A L.length c,.int .i64 (k:Int)] 197 (0,0))
 below:Below w0.heap.size w0 w
 le:k<=L.length
section
variable {w0:World} {P:Nat} {A:Option Addr} {c:Nat} {L:List Tk} {w w':World} {k:Nat}
theorem St.at (h:St w0 P A c L w k):PsT.At w P A L.length c k:=by
 have:=h.prs
 exact ⟨by simp [World.cell?,this],by simp [World.cell?,this]⟩
theorem St.lt (h:St w0 P A c L w k):P < w.heap.size:=(Array.getElem?_eq_some_iff.1 h.prs).1
theorem St.frozen (h:St w0 P A c L w k) (o:Nat):w.frozen? ⟨P,o,none⟩=false:=by
 have:=h.prs
 simp [World.frozen?,this]
theorem St.keep (h:St w0 P A c L w k) (hb:Below w.heap.size w w'):St w0 P A c L w' k :=
 ⟨(hb.block P h.lt).trans h.prs,h.below.trans (hb.mono h.below.size),h.le⟩
theorem St.drew (h:St w0 P A c L w k) (m:Nat):St w0 P A c L (w.drewN m) k:=h.keep (b_drewN (Below.refl _ _) m)
theorem St.took (h:St w0 P A c L w k) (hP:w0.heap.size<=P) (hk:k < L.length):St w0 P A c L (w.setCell ⟨P,1,none⟩ (.int .i64 ((k:Int) + 1))) (k + 1):=by
 refine ⟨?_,h.below.setCell (p:=⟨P,1,none⟩) hP _,hk⟩
 have:=h.prs
 simp [World.setCell,Array.getElem?_modify,this]
theorem grown_below (hb:Below w.heap.size w w') (r:Option Nat):w.grownBy w' r:=⟨hb.os,hb.tape,hb.output,hb.size,fun j hj _ => hb.block j hj⟩
theorem grown_set (w:World) (P o:Nat) (v:Value):w.grownBy (w.setCell ⟨P,o,none⟩ v) (some P) :=
 ⟨rfl,rfl,rfl,by simp [World.setCell],fun j hj hne => Below.heap_setCell w ⟨P,o,none⟩ v j (fun e => hne (by rw [e]))⟩
theorem grown_trans {u v x:World} {r:Option Nat} (h:u.grownBy v r) (g:v.grownBy x r):u.grownBy x r :=
 ⟨g.os.trans h.os,g.tape.trans h.tape,g.output.trans h.output,Nat.le_trans h.size g.size,fun j hj hne => (g.block j (Nat.lt_of_lt_of_le hj h.size) hne).trans (h.block j hj hne)⟩
theorem drop_cons {t:Tk} {r:List Tk} (h:L.drop k=t :: r):∃ hk:k < L.length,t=L[k]/\r=L.drop (k + 1):=by
 have hk:k < L.length:=by
  rcases Nat.lt_or_ge k L.length with g | g
  ·exact g
  ·rw [List.drop_eq_nil_of_le g] at h; cases h
 rw [List.drop_eq_getElem_cons hk] at h
 injection h with h1 h2
 exact ⟨hk,h1.symm,h2.symm⟩
theorem drop_nil (h:L.drop k=[]) (hk:k<=L.length):k=L.length:=by
 have:=List.drop_eq_nil_iff.1 h; omega
theorem tok_cells (hE:Env w0 P A L) (hS:St w0 P A c L w k) (hk:k < L.length):∃ g,A=some ⟨g,0,none⟩/\w.cell? ⟨g,k * 6,none⟩=some (.int .i64 L[k].kind)/\w.cell? ⟨g,k * 6 + 1,none⟩=some (.int .i64 L[k].pos)/\w.cell? ⟨g,k * 6 + 2,none⟩=some (.string ⟨L[k].s.toArray⟩)/\w.cell? ⟨g,k * 6 + 3,none⟩=some (.int .i64 L[k].vk)/\w.cell? ⟨g,k * 6 + 4,none⟩=some (.int .i64 L[k].n)/\w.cell? ⟨g,k * 6 + 5,none⟩=some (.string ⟨L[k].t.toArray⟩):=by
 obtain ⟨g,hA,hc⟩:=hE.cells k hk
 have key:∀ j v,j < 6->(tkC L[k])[j]?=some v->w.cell? ⟨g,k * 6 + j,none⟩=some v:=fun j v hj hv => by
  have h1:=(hc j hj).trans hv
  exact (hS.below.cell (p:=⟨g,k * 6 + j,none⟩) (cell_ltP h1)).trans h1
 exact ⟨g,hA,key 0 _ (by decide) rfl,key 1 _ (by decide) rfl,key 2 _ (by decide) rfl,key 3 _ (by decide) rfl,key 4 _ (by decide) rfl,key 5 _ (by decide) rfl⟩
theorem beq_bytes (l:List UInt8) (s:ByteArray) (b:Bool) (h:decide (l=s.data.toList)=b):((ByteArray.mk l.toArray).toList == s.toList)=b:=by
 rw [ByteArray.toList_eq,ByteArray.toList_eq,← h]
 by_cases e:l=s.data.toList
 ·rw [decide_eq_true e]; simp [e]
 ·rw [decide_eq_false e]; simp [e]
theorem isNext_c (hE:Env w0 P A L) (hS:St w0 P A c L w k) (s:ByteArray) :
  Calls Tryz.prog 161 #[.pointer (some ⟨P,0,none⟩),.string s] w fun e w' => e=.returned (.bool (isNext s.data.toList (L.drop k)))/\∃ m,w'=w.drewN m:=by
 cases hd:L.drop k with
 | nil =>
  obtain rfl:=drop_nil hd hS.le
  exact isNext_end P A L.length c s w hE.len hS.at
 | cons t r =>
  obtain ⟨hk,rfl,rfl⟩:=drop_cons hd
  obtain ⟨g,rfl,c0,c1,c2,c3,c4,c5⟩:=tok_cells hE hS hk
  exact isNext_some P g L.length c k s _ w hE.len hk hS.at c2 _ (beq_bytes _ _ _ rfl)
def Wrong (v:Value) (r:List Tk):Prop:=(r=[]/\v=.iface 195 (.agg #[])) ∨ ∃ t r',r=t :: r'/\v=.iface 193 (tkV t)
theorem throw_c (hE:Env w0 P A L) (hS:St w0 P A c L w k) :
  Calls Tryz.prog 127 #[.pointer (some ⟨P,0,none⟩)] w fun e w' => ∃ v,e=.panicked [{ v:=v,recovered:=false }]/\Wrong v (L.drop k)/\∃ m,w'=w.drewN m:=by
 cases hd:L.drop k with
 | nil =>
  obtain rfl:=drop_nil hd hS.le
  refine (throw_end P A L.length c w hE.len hS.at).mono ?_
  rintro e w' ⟨rfl,hm⟩
  exact ⟨_,rfl,.inl ⟨rfl,rfl⟩,hm⟩
 | cons t r =>
  obtain ⟨hk,rfl,rfl⟩:=drop_cons hd
  obtain ⟨g,rfl,c0,c1,c2,c3,c4,c5⟩:=tok_cells hE hS hk
  refine (throw_some P g L.length c k _ _ _ _ _ _ w hE.len hk hS.at c0 c1 c2 c3 c4 c5).mono ?_
  rintro e w' ⟨rfl,hm⟩
  exact ⟨_,rfl,.inr ⟨_,_,rfl,rfl⟩,hm⟩
theorem expect_c (hE:Env w0 P A L) (hS:St w0 P A c L w k) (s:ByteArray) (hn:isNext s.data.toList (L.drop k)=true) :
  Calls Tryz.prog 196 #[.pointer (some ⟨P,0,none⟩),.string s] w fun e w' => e=.returned (.tuple #[])/\k < L.length/\St w0 P A c L w' (k + 1)/\w.grownBy w' (some P):=by
 cases hd:L.drop k with
 | nil => rw [hd] at hn; cases hn
 | cons t r =>
  obtain ⟨hk,rfl,rfl⟩:=drop_cons hd
  obtain ⟨g,rfl,c0,c1,c2,c3,c4,c5⟩:=tok_cells hE hS hk
  rw [hd] at hn
  refine (expect_ok P g L.length c k s _ w hE.len hk hS.at (hS.frozen 1) c2 (beq_bytes _ _ _ hn)).mono ?_
  rintro e w' ⟨rfl,m,rfl⟩
  exact ⟨rfl,hk,(hS.drew m).took hE.hP hk,grown_trans (grown_below (b_drewN (Below.refl _ _) m) _) (grown_set _ _ _ _)⟩
theorem expect_no (hE:Env w0 P A L) (hS:St w0 P A c L w k) (s:ByteArray) (hn:isNext s.data.toList (L.drop k)=false) :
  Calls Tryz.prog 196 #[.pointer (some ⟨P,0,none⟩),.string s] w fun e w' => ∃ v,e=.panicked [{ v:=v,recovered:=false }]/\Wrong v (L.drop k)/\∃ m,w'=w.drewN m:=by
 cases hd:L.drop k with
 | nil =>
  obtain rfl:=drop_nil hd hS.le
  refine (expect_end P A L.length c s w hE.len hS.at).mono ?_
  rintro e w' ⟨rfl,hm⟩
  exact ⟨_,rfl,.inl ⟨rfl,rfl⟩,hm⟩
 | cons t r =>
  obtain ⟨hk,rfl,rfl⟩:=drop_cons hd
  obtain ⟨g,rfl,c0,c1,c2,c3,c4,c5⟩:=tok_cells hE hS hk
  rw [hd] at hn
  refine (expect_bad P g L.length c k _ _ _ _ s _ _ w hE.len hk hS.at c0 c1 c2 c3 c4 c5 (beq_bytes _ _ _ hn)).mono ?_
  rintro e w' ⟨rfl,hm⟩
  exact ⟨_,rfl,.inr ⟨_,_,rfl,rfl⟩,hm⟩
def opNext (q:Nat):List Tk->Option Nat
 | [] => none
 | t :: _ => PsM.opAt q t.s
theorem opAt_none {q:Nat} {s:List UInt8} (h:PsM.opAt q s=none) (hq:q<=6) (hs:s ≠ []):∀ j,j < 19->¬ ((rwP j).2.1=(q:Int)/\(rwP j).1=s):=fun j hj ⟨h1,h2⟩ => by
 unfold PsM.opAt at h
 rw [List.find?_eq_none] at h
 have:=h j (List.mem_range.2 hj)
 simp only [Bool.and_eq_true,decide_eq_true_eq,not_and] at this
 have h3:3<=j:=by
  rcases Nat.lt_or_ge j 3 with g | g
  ·have:(rwP j).1=[]:=by
    obtain rfl | rfl | rfl:j=0 ∨ j=1 ∨ j=2:=by omega
    all_goals rfl
   exact absurd (h2.symm.trans this) hs
  ·exact g
 exact this ⟨h3,h1⟩ h2
theorem opAt_some {q op:Nat} {s:List UInt8} (h:PsM.opAt q s=some op) (hs:s ≠ []):op < 19/\3<=op/\((rwP op).2.1=(q:Int)/\(rwP op).1=s)/\∀ j,j < op->¬ ((rwP j).2.1=(q:Int)/\(rwP j).1=s):=by
 unfold PsM.opAt at h
 rw [List.find?_eq_some_iff_getElem] at h
 obtain ⟨h1,i,hi,he,hlt⟩:=h
 simp only [List.length_range] at hi
 rw [List.getElem_range] at he
 subst he
 simp only [Bool.and_eq_true,decide_eq_true_eq] at h1
 refine ⟨hi,h1.1.1,⟨h1.1.2,h1.2⟩,fun j hj ⟨g1,g2⟩ => ?_⟩
 have:=hlt j hj
 rw [List.getElem_range] at this
 have h3:3<=j:=by
  rcases Nat.lt_or_ge j 3 with g | g
  ·have h0:(rwP j).1=[]:=by
    obtain rfl | rfl | rfl:j=0 ∨ j=1 ∨ j=2:=by omega
    all_goals rfl
   exact absurd (g2.symm.trans h0) hs
  ·exact g
 simp [h3,g1,g2] at this
def Full (L:List Tk):Prop:=∀ t ∈ L,t.s ≠ []
theorem isN_c (hE:Env w0 P A L) (hS:St w0 P A c L w k):∀ (s:ByteArray) (W:World),Below w.heap.size w W->Calls Tryz.prog 161 #[.pointer (some ⟨P,0,none⟩),.string s] W fun e w' => e=.returned (.bool (isNext s.data.toList (L.drop k)))/\∃ m,w'=W.drewN m :=
 fun s W hb => isNext_c hE (hS.keep hb) s
theorem operator_no (hE:Env w0 P A L) (hS:St w0 P A c L w k) (hF:Full L) (q:Nat) (hq:q<=6) (hn:opNext q (L.drop k)=none) :
  Calls Tryz.prog 149 #[.pointer (some ⟨P,0,none⟩),.int .i64 (q:Int)] w fun e w' => e=.returned (.int .i64 0)/\Below w.heap.size w w':=by
 refine operator_none P (fun s => isNext s.data.toList (L.drop k)) q w (fun j hj ⟨h1,h2⟩ => ?_) (ExN.Tab.below hE.tab hS.below) (isN_c hE hS)
 cases hd:L.drop k with
 | nil => rw [hd] at h2; cases h2
 | cons t r =>
  rw [hd] at h2 hn
  obtain ⟨hk,ht,_⟩:=drop_cons hd
  refine opAt_none hn hq (hF t (by rw [ht]; exact List.getElem_mem _)) j hj ⟨h1,?_⟩
  have:=of_decide_eq_true (show decide (t.s=_)=true from h2)
  rw [this]; rfl
theorem operator_yes (hE:Env w0 P A L) (hS:St w0 P A c L w k) (hF:Full L) (q op:Nat) (hn:opNext q (L.drop k)=some op) :
  Calls Tryz.prog 149 #[.pointer (some ⟨P,0,none⟩),.int .i64 (q:Int)] w fun e w' => e=.returned (.int .i64 (op:Int))/\k < L.length/\St w0 P A c L w' (k + 1)/\w.grownBy w' (some P):=by
 cases hd:L.drop k with
 | nil => rw [hd] at hn; cases hn
 | cons t r =>
  obtain ⟨hk,ht,_⟩:=drop_cons hd
  rw [hd] at hn
  obtain ⟨o1,o3,o2,o4⟩:=opAt_some hn (hF t (by rw [ht]; exact List.getElem_mem _))
  have hone:∀ j,((rwP j).2.1=(q:Int)/\(rwP j).1=t.s) ↔ ((rw_ j).2.1=(q:Int)/\(fun s:ByteArray => isNext s.data.toList (L.drop k)) ⟨(rw_ j).1.toArray⟩=true):=fun j => by
   rw [hd]
   show _ ↔ _/\decide (t.s=_)=true
   rw [decide_eq_true_iff]
   exact ⟨fun ⟨a,b⟩ => ⟨a,b.symm⟩,fun ⟨a,b⟩ => ⟨a,b.symm⟩⟩
  refine (operator_some P (fun s => isNext s.data.toList (L.drop k)) q w k op (by have:=hE.len; omega) hS.at.2 (hS.frozen 1) o1 ((hone op).1 o2) (fun j hj h => o4 j hj ((hone j).2 h)) (ExN.Tab.below hE.tab hS.below) (isN_c hE hS)).mono ?_
  rintro e w' ⟨rfl,w1,hb,rfl⟩
  exact ⟨rfl,hk,(hS.keep hb).took hE.hP hk,grown_trans (grown_below hb _) (grown_set _ _ _ _)⟩
end
end Ps
namespace PsR
open Go.RowKit
open LexM ExM Kit ExL ExP PsM PsT NmC Ps
set_option linter.unusedVariables false
def Boxz (W:World) (b:Nat):Prop:=W.heap[b]?=some (.cells #[.int .i64 0,.int .i64 0,.int .i64 0,.string ⟨#[]⟩,.string ⟨#[]⟩,.slice none 0 0] 45 (0,0))
theorem boxz_at (W:World):Boxz (W.alloc (.cells #[.int .i64 0,.int .i64 0,.int .i64 0,.string ⟨#[]⟩,.string ⟨#[]⟩,.slice none 0 0] 45)) W.heap.size:=World.alloc_heap_new W _
theorem boxz_keep {W W':World} {b:Nat} (h:Boxz W b) (hb:Below W.heap.size W W'):Boxz W' b:=(hb.block b (Array.getElem?_eq_some_iff.1 h).1).trans h
theorem boxz_grown {W W':World} {b P:Nat} (h:Boxz W b) (hb:W.grownBy W' (some P)) (hne:b ≠ P):Boxz W' b:=(hb.block b (Array.getElem?_eq_some_iff.1 h).1 (fun e => hne (by injection e))).trans h
def S6 (W:World) (B:Nat) (u0 u1 u2 u3 u4 u5:Value):World:=((((((W.setCell ⟨B,0,none⟩ u0).setCell ⟨B,1,none⟩ u1).setCell ⟨B,2,none⟩ u2).setCell ⟨B,3,none⟩ u3).setCell ⟨B,4,none⟩ u4).setCell ⟨B,5,none⟩ u5)
theorem s6_heap (W:World) (B b:Nat) (h:b ≠ B) (u0 u1 u2 u3 u4 u5:Value):(S6 W B u0 u1 u2 u3 u4 u5).heap[b]?=W.heap[b]?:=by
 unfold S6
 rw [Below.heap_setCell _ ⟨B,5,none⟩ _ b h,Below.heap_setCell _ ⟨B,4,none⟩ _ b h,Below.heap_setCell _ ⟨B,3,none⟩ _ b h,Below.heap_setCell _ ⟨B,2,none⟩ _ b h,Below.heap_setCell _ ⟨B,1,none⟩ _ b h,Below.heap_setCell _ ⟨B,0,none⟩ _ b h]
theorem set6_box {W:World} {B:Nat} {t0 t1 t2 t3 t4 t5:Value} {t:TypeId} (h:W.heap[B]?=some (.cells #[t0,t1,t2,t3,t4,t5] t (0,0))) (u0 u1 u2 u3 u4 u5:Value):(S6 W B u0 u1 u2 u3 u4 u5).heap[B]?=some (.cells #[u0,u1,u2,u3,u4,u5] t (0,0)):=by
 unfold S6
 have e1:=heap_setCell_same W B 0 _ _ u0 h
 have e2:=heap_setCell_same _ B 1 _ _ u1 e1
 have e3:=heap_setCell_same _ B 2 _ _ u2 e2
 have e4:=heap_setCell_same _ B 3 _ _ u3 e3
 have e5:=heap_setCell_same _ B 4 _ _ u4 e4
 have e6:=heap_setCell_same _ B 5 _ _ u5 e5
 rw [e6]; rfl
theorem s6_size (W:World) (B:Nat) (u0 u1 u2 u3 u4 u5:Value):(S6 W B u0 u1 u2 u3 u4 u5).heap.size=W.heap.size:=by unfold S6; simp only [sz_set]
theorem s6_grown (W:World) (B:Nat) (u0 u1 u2 u3 u4 u5:Value):W.grownBy (S6 W B u0 u1 u2 u3 u4 u5) (some B):=by
 unfold S6
 exact grown_trans (grown_trans (grown_trans (grown_trans (grown_trans (grown_set W B 0 u0) (grown_set _ B 1 u1)) (grown_set _ B 2 u2)) (grown_set _ B 3 u3)) (grown_set _ B 4 u4)) (grown_set _ B 5 u5)
theorem cells_of {W:World} {B:Nat} {t0 t1 t2 t3 t4 t5:Value} {t:TypeId} (h:W.heap[B]?=some (.cells #[t0,t1,t2,t3,t4,t5] t (0,0))):(∀ o,W.cell? ⟨B,o,none⟩=(#[t0,t1,t2,t3,t4,t5]:Array Value)[o]?)/\(∀ o,W.frozen? ⟨B,o,none⟩=false) :=
 ⟨fun o => by simp [World.cell?,h],fun o => by simp [World.frozen?,h]⟩
section
variable {w0:World} {P:Nat} {A:Option Addr} {c:Nat} {L:List Tk} {w w':World} {k:Nat}
def OkX (w0:World) (P:Nat) (A:Option Addr) (c:Nat) (L:List Tk) (w:World) (k:Nat) (x:Ex) (r:List Tk) (e:Ending) (w':World):Prop :=
 ∃ (d:Nd) (B:Option Addr) (m cp k':Nat),e=.returned (.agg #[.int .i64 d.op,.int .i64 d.k,.int .i64 d.n,.string d.s,.string d.nm,.slice B m cp])/\IsP (fun b => w.heap.size<=b) w' x d B m/\r=L.drop k'/\k<=k'/\St w0 P A c L w' k'/\w.grownBy w' (some P)
def BadX (P:Nat) (w:World) (r:List Tk) (e:Ending) (w':World):Prop:=∃ v,e=.panicked [{ v:=v,recovered:=false }]/\Wrong v r/\w.grownBy w' (some P)
theorem put_res {w1:World} {k':Nat} {x:Ex} {d:Nd} {B:Option Addr} {m cp:Nat} (hS:St w0 P A c L w k) (hP:w0.heap.size<=P) (hx:IsP (fun b => w.heap.size < b) w1 x d B m) (hS1:St w0 P A c L w1 k') (hbx:Boxz w1 w.heap.size) (hg:w.grownBy w1 (some P)) :
  IsP (fun b => w.heap.size<=b) (S6 w1 w.heap.size (.int .i64 d.op) (.int .i64 d.k) (.int .i64 d.n) (.string d.s) (.string d.nm) (.slice B m cp)) x d B m/\St w0 P A c L (S6 w1 w.heap.size (.int .i64 d.op) (.int .i64 d.k) (.int .i64 d.n) (.string d.s) (.string d.nm) (.slice B m cp)) k'/\w.grownBy (S6 w1 w.heap.size (.int .i64 d.op) (.int .i64 d.k) (.int .i64 d.n) (.string d.s) (.string d.nm) (.slice B m cp)) (some P):=by
 have hl:=hS.lt
 have hh:=fun b (h:b ≠ w.heap.size) => s6_heap w1 w.heap.size b h (.int .i64 d.op) (.int .i64 d.k) (.int .i64 d.n) (.string d.s) (.string d.nm) (.slice B m cp)
 have h0:=hS.below.size
 have h1:=hg.size
 have h6:=s6_grown w1 w.heap.size (.int .i64 d.op) (.int .i64 d.k) (.int .i64 d.n) (.string d.s) (.string d.nm) (.slice B m cp)
 refine ⟨IsP.keep (fun b hb _ => hh b (Nat.ne_of_gt hb)) (fun b hb _ => Nat.le_of_lt hb) _ _ _ _ hx,⟨(hh P (by omega)).trans hS1.prs,?_,hS1.le⟩,⟨h6.os.trans hg.os,h6.tape.trans hg.tape,h6.output.trans hg.output,Nat.le_trans hg.size h6.size,fun j hj hne => (hh j (by omega)).trans (hg.block j hj hne)⟩⟩
 exact hS1.below.grown (s6_grown w1 w.heap.size _ _ _ _ _ _) hS1.below.size (fun j e => by injection e with e; omega)
theorem leaf_x {t:Tk} {x:Ex} (h:leafN t=some x):x=.mk x.d []/\(x.d.s.size<=t.t.length/\x.d.nm.size<=t.s.length):=by
 have hz:∀ l:List UInt8,(ByteArray.mk l.toArray).size=l.length:=fun l => by simp [ByteArray.size]
 unfold leafN at h
 split at h
 ·injection h with h; subst h; exact ⟨rfl,Nat.le_of_eq (hz _),Nat.zero_le _⟩
 ·split at h
  ·injection h with h; subst h; exact ⟨rfl,Nat.zero_le _,Nat.zero_le _⟩
  ·split at h
   ·injection h with h; subst h; exact ⟨rfl,Nat.zero_le _,Nat.zero_le _⟩
   ·split at h
    ·injection h with h; subst h; exact ⟨rfl,Nat.zero_le _,Nat.le_of_eq (hz _)⟩
    ·cases h
def Small (L:List Tk):Prop:=∀ t ∈ L,t.s.length<=1000/\t.t.length<=1000
set_option maxHeartbeats 4000000 in
theorem single_end (hE:Env w0 P A L) (hS:St w0 P A c L w L.length):Calls Tryz.prog 180 #[.pointer (some ⟨P,0,none⟩)] w (BadX P w []):=by
 have hS1:=hS.keep (b_new w (.cells #[.int .i64 0,.int .i64 0,.int .i64 0,.string ⟨#[]⟩,.string ⟨#[]⟩,.slice none 0 0] 45))
 obtain ⟨h0,h1⟩:=hS.at
 have hl:=hS.lt
 have ht:=fun m => throw_c hE (hS1.drew m)
 have HT:=Lib.hid ht
 have i0:((L.length:Int) == (L.length:Int))=true:=by simp
 clear ht hS1 hS
 go_enter Tryz.func180,Tryz.ntmps180
 go_wp2_with fail
 go_quiet (fail)
 go_wp2_with fail
 refine (HT.out _).mono ?_
 rintro e w1 ⟨v,rfl,hw,m,rfl⟩
 rw [List.drop_length] at hw
 have HW:=Lib.hid hw
 clear hw
 go_wp2_with fail
 exact ⟨rfl,v,rfl,HW.out,grown_below (b_drewN (b_new _ _) _) _⟩
set_option maxHeartbeats 8000000 in
set_option maxRecDepth 100000 in
theorem single_any (hE:Env w0 P A L) (hS:St w0 P A c L w k) (hk:k < L.length) (b:Bool) (x:Ex) (hx:(b=true/\leafN L[k]=some x) ∨ (b=false/\leafN L[k]=none/\x=.mk ⟨0,0,0,⟨#[]⟩,⟨#[]⟩⟩ [])) (hsm:Small L) :
  Calls Tryz.prog 180 #[.pointer (some ⟨P,0,none⟩)] w fun e w' => (b=true->OkX w0 P A c L w k x (L.drop (k + 1)) e w')/\(b=false->BadX P w (L.drop k) e w'):=by
 have hx0:x=.mk x.d []/\x.d.s.size<=1000/\x.d.nm.size<=1000:=by
  rcases hx with ⟨_,h⟩ | ⟨_,_,rfl⟩
  ·have h1:=leaf_x h
   have h2:=hsm L[k] (List.getElem_mem _)
   exact ⟨h1.1,by omega,by omega⟩
  ·exact ⟨rfl,Nat.zero_le _,Nat.zero_le _⟩
 obtain ⟨d,rfl⟩:∃ d,x=.mk d []:=⟨_,hx0.1⟩
 have hlf:∀ W,Below w0.heap.size w0 W->Calls Tryz.prog 197 #[tkV L[k]] W fun e w' => e=.returned (.tuple #[.agg #[.int .i64 d.op,.int .i64 d.k,.int .i64 d.n,.string d.s,.string d.nm,.slice none 0 0],.bool b])/\Below W.heap.size W w':=fun W hb => by
  refine (hE.leaf L[k] (List.getElem_mem _) W hb).mono ?_
  rintro e w' ⟨h,hb⟩
  refine ⟨?_,hb⟩
  rcases hx with ⟨rfl,h1⟩ | ⟨rfl,h1,h2⟩
  ·rcases h with ⟨y,h3,h4⟩ | ⟨h3,_⟩
   ·rw [h1] at h3; injection h3 with h3; subst h3; exact h4
   ·rw [h1] at h3; cases h3
  ·rcases h with ⟨y,h3,_⟩ | ⟨_,h4⟩
   ·rw [h1] at h3; cases h3
   ·injection h2 with h2; subst h2; exact h4
 have hsz:=hx0.2
 obtain ⟨T,hT⟩:∃ T,L[k]=T:=⟨_,rfl⟩
 have hd:L.drop k=T :: L.drop (k + 1):=by rw [List.drop_eq_getElem_cons hk,hT]
 rw [hT] at hlf
 unfold tkV at hlf
 have hS1:=hS.keep (b_new w (.cells #[.int .i64 0,.int .i64 0,.int .i64 0,.string ⟨#[]⟩,.string ⟨#[]⟩,.slice none 0 0] 45))
 obtain ⟨g,hA,c0,c1,c2,c3,c4,c5⟩:=tok_cells hE hS hk
 rw [hT] at c0 c1 c2 c3 c4 c5
 subst hA
 obtain ⟨h0,h1⟩:=hS.at
 have hgl:=cell_ltP c0
 have hl:=hS.lt
 have i0:((k:Int) == (L.length:Int))=false:=beq_eq_false_iff_ne.2 (by omega)
 have i1:(k:Int) < (L.length:Int):=by omega
 have i2:(0:Int)<=(k:Int):=by omega
 have i3:((k:Int)).toNat=k:=by omega
 have hw:IntKind.i64.wrap ((k:Int) + 1)=(k:Int) + 1:=IntWalk.i64_in _ (by have:=hE.len; omega)
 have HLf:=Lib.hid hlf
 have HS:=Lib.hid hS
 have HE:=Lib.hid hE
 clear hlf hS1 hS hT hx hx0
 go_enter Tryz.func180,Tryz.ntmps180
 go_wp2_with fail
 go_quiet (fail)
 go_upto_region 3 with fail
 obtain ⟨W1,hW1⟩:∃ V,(w.alloc (.cells #[.int .i64 0,.int .i64 0,.int .i64 0,.string ⟨#[]⟩,.string ⟨#[]⟩,.slice none 0 0] 45)).drewN nq=V:=⟨_,rfl⟩
 have hbW:Below w.heap.size w W1:=by rw [← hW1]; exact b_drewN (b_new _ _) _
 have hbz:Boxz W1 w.heap.size:=by rw [← hW1]; exact boxz_at w
 have hcl:∀ V,Below W1.heap.size W1 V->V.cell? ⟨P,0,none⟩=some (.slice (some ⟨g,0,none⟩) L.length c)/\V.cell? ⟨P,1,none⟩=some (.int .i64 (k:Int))/\V.cell? ⟨g,k * 6,none⟩=some (.int .i64 T.kind)/\V.cell? ⟨g,k * 6 + 1,none⟩=some (.int .i64 T.pos)/\V.cell? ⟨g,k * 6 + 2,none⟩=some (.string ⟨T.s.toArray⟩)/\V.cell? ⟨g,k * 6 + 3,none⟩=some (.int .i64 T.vk)/\V.cell? ⟨g,k * 6 + 4,none⟩=some (.int .i64 T.n)/\V.cell? ⟨g,k * 6 + 5,none⟩=some (.string ⟨T.t.toArray⟩):=fun V hV => by
  have hb:=hbW.trans (hV.mono hbW.size)
  exact ⟨(hb.cell (p:=⟨P,0,none⟩) hl).trans h0,(hb.cell (p:=⟨P,1,none⟩) hl).trans h1,(hb.cell (p:=⟨g,k * 6,none⟩) hgl).trans c0,(hb.cell (p:=⟨g,k * 6 + 1,none⟩) hgl).trans c1,(hb.cell (p:=⟨g,k * 6 + 2,none⟩) hgl).trans c2,(hb.cell (p:=⟨g,k * 6 + 3,none⟩) hgl).trans c3,(hb.cell (p:=⟨g,k * 6 + 4,none⟩) hgl).trans c4,(hb.cell (p:=⟨g,k * 6 + 5,none⟩) hgl).trans c5⟩
 have hlf:∀ W,Below W1.heap.size W1 W->_:=fun W hV => HLf.out W (HS.out.below.trans ((hbW.trans (hV.mono hbW.size)).mono HS.out.below.size))
 have HLf2:=Lib.hid hlf
 have HCells:=Lib.hid hcl
 have HBW:=Lib.hid hbW
 have HBz:=Lib.hid hbz
 rw [hW1]
 clear hW1 hlf hcl hbW hbz HLf h0 h1 c0 c1 c2 c3 c4 c5 hE
 go_cut [3,4] (fun s3 s4 wx => ∃ B:Nat,s3=.pointer (some ⟨B,0,none⟩)/\s4=.bool b/\wx.heap[B]?=some (.cells #[.int .i64 d.op,.int .i64 d.k,.int .i64 d.n,.string d.s,.string d.nm,.slice none 0 0] 45 (0,0))/\Below W1.heap.size W1 wx)
 case first =>
  have hbl:=Below.refl W1.heap.size W1
  obtain ⟨h0,h1,c0,c1,c2,c3,c4,c5⟩:=HCells.out W1 hbl
  have hset:∀ (U:World) (u0 u1 u2 u3 u4 u5:Value),Below W1.heap.size W1 U->∀ V,V=S6 U W1.heap.size u0 u1 u2 u3 u4 u5->V.cell? ⟨P,0,none⟩=some (.slice (some ⟨g,0,none⟩) L.length c)/\V.cell? ⟨P,1,none⟩=some (.int .i64 (k:Int))/\V.cell? ⟨g,k * 6,none⟩=some (.int .i64 T.kind)/\V.cell? ⟨g,k * 6 + 1,none⟩=some (.int .i64 T.pos)/\V.cell? ⟨g,k * 6 + 2,none⟩=some (.string ⟨T.s.toArray⟩)/\V.cell? ⟨g,k * 6 + 3,none⟩=some (.int .i64 T.vk)/\V.cell? ⟨g,k * 6 + 4,none⟩=some (.int .i64 T.n)/\V.cell? ⟨g,k * 6 + 5,none⟩=some (.string ⟨T.t.toArray⟩):=fun U u0 u1 u2 u3 u4 u5 hU V hV => by
   subst hV
   have hP1:P < W1.heap.size:=cell_ltP h0
   have hg1:g < W1.heap.size:=cell_ltP c0
   have hh:=fun b (hb:b < W1.heap.size) => s6_heap U W1.heap.size b (by omega) u0 u1 u2 u3 u4 u5
   obtain ⟨k0,k1,k2,k3,k4,k5,k6,k7⟩:=HCells.out U hU
   exact ⟨(World.cell?_of_block (a:=⟨P,0,none⟩) (hh P hP1)).trans k0,(World.cell?_of_block (a:=⟨P,1,none⟩) (hh P hP1)).trans k1,(World.cell?_of_block (a:=⟨g,k * 6,none⟩) (hh g hg1)).trans k2,(World.cell?_of_block (a:=⟨g,k * 6 + 1,none⟩) (hh g hg1)).trans k3,(World.cell?_of_block (a:=⟨g,k * 6 + 2,none⟩) (hh g hg1)).trans k4,(World.cell?_of_block (a:=⟨g,k * 6 + 3,none⟩) (hh g hg1)).trans k5,(World.cell?_of_block (a:=⟨g,k * 6 + 4,none⟩) (hh g hg1)).trans k6,(World.cell?_of_block (a:=⟨g,k * 6 + 5,none⟩) (hh g hg1)).trans k7⟩
  have HSet:=Lib.hid hset
  clear hset
  go_region_held3 (fun V => V.cell? ⟨P,0,none⟩=some (.slice (some ⟨g,0,none⟩) L.length c)/\V.cell? ⟨P,1,none⟩=some (.int .i64 (k:Int))/\V.cell? ⟨g,k * 6,none⟩=some (.int .i64 T.kind)/\V.cell? ⟨g,k * 6 + 1,none⟩=some (.int .i64 T.pos)/\V.cell? ⟨g,k * 6 + 2,none⟩=some (.string ⟨T.s.toArray⟩)/\V.cell? ⟨g,k * 6 + 3,none⟩=some (.int .i64 T.vk)/\V.cell? ⟨g,k * 6 + 4,none⟩=some (.int .i64 T.n)/\V.cell? ⟨g,k * 6 + 5,none⟩=some (.string ⟨T.t.toArray⟩)) (first | (with_reducible exact HCells.out _ hbl) | (with_reducible exact HCells.out _ (b_drew hbl)) | (with_reducible exact HCells.out _ (b_more hbl _)) | (with_reducible exact HCells.out _ (b_more (b_drew hbl) _)) | (with_reducible exact HCells.out _ (b_drew (b_more hbl _))) | (with_reducible exact HSet.out _ _ _ _ _ _ _ hbl _ rfl))
   (first | (go_at_call 197; (with_reducible refine (HLf2.out _ ?_).mono ?_); (first | exact hbl | exact (b_drew hbl) | exact (b_more hbl _) | exact (b_more (b_drew hbl) _) | exact (b_drew (b_more hbl _))); rintro e wz ⟨rfl,hbn⟩; have hbl:Below W1.heap.size W1 wz:=(by first | exact hbl.trans (hbn.mono (hbl).size) | exact (b_drew hbl).trans (hbn.mono (b_drew hbl).size) | exact (b_more hbl _).trans (hbn.mono (b_more hbl _).size) | exact (b_more (b_drew hbl) _).trans (hbn.mono (b_more (b_drew hbl) _).size) | exact (b_drew (b_more hbl _)).trans (hbn.mono (b_drew (b_more hbl _)).size)); (first | (have bx:Boxz wz W1.heap.size:=boxz_keep (by first | exact boxz_at W1 | exact boxz_at W1.drew) hbn; have pb:=set6_box bx (.int .i64 d.op) (.int .i64 d.k) (.int .i64 d.n) (.string d.s) (.string d.nm) (.slice none 0 0); obtain ⟨x1,x2⟩:=cells_of bx; have x3:=(Array.getElem?_eq_some_iff.1 bx).1; have pg:=(s6_grown wz W1.heap.size (.int .i64 d.op) (.int .i64 d.k) (.int .i64 d.n) (.string d.s) (.string d.nm) (.slice none 0 0)); have pb2:=hbl.grown pg hbl.size (fun j e => by injection e with e; omega)) | skip)))
  all_goals (go_wp2_with fail; go_meet)
  all_goals (first | (unfold S6 at pb pb2; with_reducible exact ⟨_,rfl,rfl,pb,pb2⟩) | (with_reducible exact ⟨_,rfl,rfl,World.alloc_heap_new _ _,b_more hbl _⟩))
 case rest =>
  obtain ⟨B,rfl,rfl,hB,hbl⟩:=hcut
  have hSc:=(HS.out.keep HBW.out).keep hbl
  have hbzc:=boxz_keep HBz.out hbl
  have hBP:B ≠ P:=fun e => by
   have h1:=hSc.prs
   rw [← e,hB] at h1
   injection h1 with h1; injection h1 with h1; simp at h1
  have hWP:w.heap.size ≠ P:=by omega
  have hgc:w.grownBy wc (some P):=grown_below (HBW.out.trans (hbl.mono HBW.out.size)) _
  have hlc:=hSc.lt
  obtain ⟨h0,h1⟩:=hSc.at
  have hfz:=hSc.frozen 1
  cases b with
  | false =>
   obtain ⟨y1,y2⟩:=cells_of hB
   have ht:=throw_c HE.out hSc
   have HT:=Lib.hid ht
   have HGc:=Lib.hid hgc
   clear ht hgc hbzc hSc hB hbl h0 h1 hfz
   go_wp2_with fail
   refine HT.out.mono ?_
   rintro e w1 ⟨v,rfl,hw1,m,rfl⟩
   have HW:=Lib.hid hw1
   clear hw1
   go_wp2_with fail
   exact ⟨rfl,v,rfl,by first | exact HW.out | (rw [← hd]; exact HW.out),grown_trans HGc.out (grown_below (b_drewN (Below.refl _ _) _) _)⟩
  | true =>
   have hS2:=hSc.took HE.out.hP hk
   have hB2:(wc.setCell ⟨P,1,none⟩ (.int .i64 ((k:Int) + 1))).heap[B]?=_:=(Below.heap_setCell wc ⟨P,1,none⟩ _ B hBP).trans hB
   have hZ2:(wc.setCell ⟨P,1,none⟩ (.int .i64 ((k:Int) + 1))).heap[w.heap.size]?=_:=(Below.heap_setCell wc ⟨P,1,none⟩ _ w.heap.size hWP).trans hbzc
   obtain ⟨y1,y2⟩:=cells_of hB2
   obtain ⟨z1,z2⟩:=cells_of hZ2
   have hx2:IsP (fun b => w.heap.size < b) (wc.setCell ⟨P,1,none⟩ (.int .i64 ((k:Int) + 1))) (.mk d []) d none 0:=isP_mk.2 ⟨rfl,rfl,⟨Nat.zero_le _,by have:=hsz.1; unfold maxLen; exact Nat.le_trans this (by decide),by have:=hsz.2; unfold maxLen; exact Nat.le_trans this (by decide)⟩,fun j hj => absurd hj (by simp)⟩
   have hend:=put_res (cp:=0) HS.out HE.out.hP hx2 hS2 hZ2 (grown_trans hgc (grown_set wc P 1 _))
   unfold S6 at hend
   have HEnd:=Lib.hid hend
   clear hend hx2 hZ2 hB2 hS2 hgc hbzc hSc hB hbl
   go_wp2_with fail
   refine bodyPost_ret (v:=.agg #[.int .i64 d.op,.int .i64 d.k,.int .i64 d.n,.string d.s,.string d.nm,.slice none 0 0]) (by simp [results,Tryz.results180,go_sem,z1]) rfl ?_
   obtain ⟨e1,e2,e3⟩:=HEnd.out
   exact ⟨d,none,0,0,k + 1,rfl,e1,rfl,Nat.le_succ _,e2,e3⟩
end
end PsR
namespace PsL
open Go.RowKit
open LexM ExM Kit ExL ExP PsM PsT NmC Ps PsR
set_option linter.unusedVariables false
theorem own_slice {w:World} {base:Nat} {e:TypeId} {size:Nat} {v:Value} {n:Nat} {xs:List Value} (h:w.ownsRow base e size v n xs):∃ A c,v=.slice A n c:=by
 rcases h.2 with ⟨h1,h2⟩ | ⟨g,cap,cur,h1,_⟩
 ·exact ⟨none,0,by rw [h2]; exact h1⟩
 ·exact ⟨some ⟨g,0,none⟩,cap,h1⟩
theorem own_form {w:World} {base:Nat} {e:TypeId} {size:Nat} {v:Value} {n:Nat} {xs:List Value} (h:w.ownsRow base e size v n xs) (hn:0 < n) :
  ∃ g cap,v=.slice (some ⟨g,0,none⟩) n cap/\base<=g/\g < w.heap.size/\n<=cap/\cap<=maxLen/\∀ j,j < n * size->w.cell? ⟨g,j,none⟩=xs[j]?:=by
 rcases h.2 with ⟨_,h2⟩ | ⟨g,cap,cur,h1,h2,h3,h4,h5,_⟩
 ·omega
 ·subst h1
  have hl:=h.lt g rfl
  exact ⟨g,cap,rfl,h2,hl.2,h4,h5,fun j hj => h.cellAt j hj⟩
theorem run_form_one:∀ (f:Nat) (j:Job) (ts:List Tk) (l:List Ex) (r:List Tk),(∀ n acc,j ≠ .list n acc)->run f j ts=.ok l r->∃ x,l=[x]
 | 0,j,ts,l,r,_,h => by simp [run] at h
 | f + 1,.form q,ts,l,r,_,h => by
  have hw:∀ (op:Nat) (o:Out) (l:List Ex) (r:List Tk),wrap op o=.ok l r->∃ x,l=[x]:=fun op o l r h => by
   cases o with
   | ok l' r' => simp only [wrap,Out.ok.injEq] at h; exact ⟨_,h.1.symm⟩
   | bad r' => simp [wrap] at h
   | tired => simp [wrap] at h
  unfold run at h
  split at h
  ·cases ts with
   | nil => simp at h
   | cons t r' =>
    simp only at h
    split at h
    ·exact hw _ _ _ _ h
    ·split at h
     ·rename_i h5 h40
      exact run_list_one f 1 [] r' l r (by simp) h
     ·split at h
      ·split at h
       ·exact hw _ _ _ _ h
       ·simp at h
      ·split at h
       ·simp only [Out.ok.injEq] at h; exact ⟨_,h.1.symm⟩
       ·simp at h
  ·split at h
   ·exact run_form_one f _ _ _ _ (fun n acc => by simp) h
   ·rename_i hne
    cases ho:run f (.form (q + 1)) ts with
    | ok l' r' =>
     obtain ⟨x,rfl⟩:=run_form_one f _ _ _ _ (fun n acc => by simp) ho
     exact absurd ho (hne x [] r')
    | bad r' => rw [ho] at h; simp at h
    | tired => rw [ho] at h; simp at h
 | f + 1,.loop q x,ts,l,r,_,h => by
  unfold run at h
  cases ts with
  | nil => simp only [Out.ok.injEq] at h; exact ⟨_,h.1.symm⟩
  | cons t r0 =>
   cases hop:PsM.opAt q t.s with
   | none => simp only [hop,Out.ok.injEq] at h; exact ⟨_,h.1.symm⟩
   | some op =>
    simp only [hop] at h
    cases ho:run f (.form (q + 1)) r0 with
    | ok l' r' =>
     obtain ⟨y,rfl⟩:=run_form_one f _ _ _ _ (fun n acc => by simp) ho
     simp only [ho] at h
     split at h
     ·simp only [Out.ok.injEq] at h; exact ⟨_,h.1.symm⟩
     ·exact run_form_one f _ _ _ _ (fun n acc => by simp) h
    | bad r' => rw [ho] at h; simp at h
    | tired => rw [ho] at h; simp at h
 | f + 1,.list n acc,ts,l,r,hn,h => absurd rfl (hn n acc)
where run_list_one:∀ (f n:Nat) (acc:List Ex) (ts:List Tk) (l:List Ex) (r:List Tk),acc.length + 1=n->run f (.list n acc) ts=.ok l r->∃ y,l=acc ++ [y]
 | 0,n,acc,ts,l,r,_,h => by simp [run] at h
 | f + 1,n,acc,ts,l,r,hn,h => by
  unfold run at h
  split at h
  ·rw [if_neg (by omega)] at h
   split at h
   ·simp only [Out.ok.injEq] at h; exact ⟨_,h.1.symm⟩
   ·simp at h
  ·rename_i hne
   cases ho:run f (.form 0) ts with
   | ok l' r' =>
    obtain ⟨x,rfl⟩:=run_form_one f _ _ _ _ (fun n acc => by simp) ho
    exact absurd ho (hne x [] r')
   | bad r' => rw [ho] at h; simp at h
   | tired => rw [ho] at h; simp at h
section
variable {w0:World} {P:Nat} {A:Option Addr} {c:Nat} {L:List Tk} {w:World} {k:Nat}
def Ends (w0:World) (P:Nat) (A:Option Addr) (c:Nat) (L:List Tk) (w:World) (k:Nat) (o:Out) (e:Ending) (w':World):Prop :=
 match o with
 | .ok [x] r => OkX w0 P A c L w k x r e w'
 | .bad r => BadX P w r e w'
 | _ => False
def FormC (w0:World) (P:Nat) (A:Option Addr) (c:Nat) (L:List Tk) (f:Nat):Prop:=∀ (q:Nat) (w:World) (k:Nat) (o:Out),q<=5->run f (.form q) (L.drop k)=o->o ≠ .tired->St w0 P A c L w k →
 Calls Tryz.prog 126 #[.pointer (some ⟨P,0,none⟩),.int .i64 (q:Int)] w (Ends w0 P A c L w k o)
def cont (f n:Nat) (l:List Ex) (r:List Tk):Out :=
 if l.length < n then (if isNext [44] r then run f (.list n l) r.tail else .bad r) else (if isNext [41] r then .ok l r.tail else .bad r)
theorem run_list (f n:Nat) (acc:List Ex) (ts:List Tk):run (f + 1) (.list n acc) ts=match run f (.form 0) ts with | .ok [x] r => cont f n (acc ++ [x]) r | o => o:=by
 cases ho:run f (.form 0) ts with
 | ok l r =>
  obtain ⟨x,rfl⟩:=run_form_one f _ _ _ _ (fun n acc => by simp) ho
  unfold cont
  simp only [run,ho,List.length_append,List.length_cons,List.length_nil,Nat.zero_add]
 | bad r => simp only [run,ho]
 | tired => simp only [run,ho]
structure LsI (w0:World) (P:Nat) (A:Option Addr) (c:Nat) (L:List Tk) (w:World) (k:Nat) (es:List El) (v:Value) (wr:World) (k':Nat):Prop where
 own:wr.ownsRow w.heap.size 45 6 v es.length (elC es)
 is:∀ e ∈ es,IsP (fun b => w.heap.size<=b/\some b ≠ v.ownBlock) wr e.x e.d e.A e.n
 st:St w0 P A c L wr k'
 grown:w.grownBy wr (some P)
 le:k<=k'
theorem own_ne {v:Value} {n:Nat} {xs:List Value} {wr:World} (hl:P < w.heap.size) (h:wr.ownsRow w.heap.size 45 6 v n xs):v.ownBlock ≠ some P:=fun e => by
 have:=(h.lt P e).1; omega
theorem LsI.keep {es:List El} {v:Value} {wr w1:World} {k' k2:Nat} (h:LsI w0 P A c L w k es v wr k') (hl:P < w.heap.size) (hS:St w0 P A c L w1 k2) (hg:wr.grownBy w1 (some P)) (hk:k'<=k2):LsI w0 P A c L w k es v w1 k2 :=
 ⟨h.own.kept hg (.inr (own_ne hl h.own)),fun e he => IsP.keep (fun b hb hlt => hg.block b hlt (fun e => by injection e with e; have:=hb.1; omega)) (fun _ hb _ => hb) _ _ _ _ (h.is e he),hS,grown_trans h.grown hg,Nat.le_trans h.le hk⟩
theorem LsI.step {es:List El} {v v':Value} {wr w2 w3:World} {k1 k2:Nat} {x:Ex} {d:Nd} {B:Option Addr} {m cp:Nat} {o:Obj} (h:LsI w0 P A c L w k es v wr k1) (hl:P < w.heap.size) (hP:w0.heap.size<=P) (hx:IsP (fun b => wr.heap.size<=b) w2 x d B m) (hS:St w0 P A c L w2 k2) (hg:wr.grownBy w2 (some P)) (hk:k1<=k2)
  (ho:w3.ownsRow w.heap.size 45 6 v' (es.length + 1) (elC es ++ [.int .i64 d.op,.int .i64 d.k,.int .i64 d.n,.string d.s,.string d.nm,.slice B m cp])) (hg3:(w2.alloc o).grownBy w3 v.ownBlock) (hloc:v'.ownBlock=v.ownBlock ∨ v'.ownBlock=some (w2.alloc o).heap.size) :
  LsI w0 P A c L w k (es ++ [⟨x,d,B,m,cp⟩]) v' w3 k2:=by
 have hown:=own_ne hl h.own
 have hsz:=hg.size
 have hws:=h.grown.size
 have hb2:∀ b,b < w2.heap.size->some b ≠ v.ownBlock->w3.heap[b]?=w2.heap[b]?:=fun b hb hne => (hg3.block b (by simp; omega) hne).trans ((b_new w2 o).block b hb)
 have hvl:∀ g,v.ownBlock=some g->w.heap.size<=g/\g < wr.heap.size:=fun g hg => h.own.lt g hg
 have hPl:=hS.lt
 refine ⟨by rw [elC_snoc,List.length_append]; exact ho,fun e he => ?_,?_,?_,Nat.le_trans h.le hk⟩
 ·rcases List.mem_append.1 he with he | he
  ·refine IsP.keep (fun b hb hlt => (hb2 b (by omega) hb.2).trans (hg.block b hlt (fun e => by injection e with e; have:=hb.1; omega))) (fun b hb hlt => ⟨hb.1,?_⟩) _ _ _ _ (h.is e he)
   rcases hloc with e1 | e1
   ·rw [e1]; exact hb.2
   ·rw [e1]; intro e2; injection e2 with e2; simp at e2; omega
  ·simp at he; subst he
   refine IsP.keep (fun b hb hlt => hb2 b hlt (fun e => ?_)) (fun b hb hlt => ⟨?_,?_⟩) _ _ _ _ hx
   ·have h1:wr.heap.size<=b:=hb
    have:=(hvl b e.symm).2; omega
   ·have h1:wr.heap.size<=b:=hb
    omega
   ·have h1:wr.heap.size<=b:=hb
    rcases hloc with e1 | e1
    ·rw [e1]; intro e2; have:=(hvl b e2.symm).2; omega
    ·rw [e1]; intro e2; injection e2 with e2; simp at e2; omega
 ·refine ⟨(hb2 P hPl hown.symm).trans hS.prs,?_,hS.le⟩
  have h1:=(hS.below.trans ((b_new w2 o).mono hS.below.size))
  exact h1.grown hg3 h1.size (fun g hg => by have:=(hvl g hg).1; have:=h.st.below.size; omega)
 ·refine ⟨hg3.os.trans (hg.os.trans h.grown.os),hg3.tape.trans (hg.tape.trans h.grown.tape),hg3.output.trans (hg.output.trans h.grown.output),?_,fun b hb hne => ?_⟩
  ·have:=hg3.size; simp at this; omega
  ·exact (hb2 b (by omega) (fun e => by have:=(hvl b e.symm).1; omega)).trans ((hg.block b (by omega) hne).trans (h.grown.block b hb hne))
def OkL (w0:World) (P:Nat) (A:Option Addr) (c:Nat) (L:List Tk) (w:World) (k:Nat) (l:List Ex) (r:List Tk) (e:Ending) (w':World):Prop :=
 ∃ (g cp k':Nat),e=.returned (.slice (some ⟨g,0,none⟩) l.length cp)/\RowP (fun b => w.heap.size<=b) w' (some ⟨g,0,none⟩) l/\r=L.drop k'/\k<=k'/\St w0 P A c L w' k'/\w.grownBy w' (some P)/\l.length<=1000
def EndsL (w0:World) (P:Nat) (A:Option Addr) (c:Nat) (L:List Tk) (w:World) (k:Nat) (o:Out) (e:Ending) (w':World):Prop :=
 match o with
 | .ok l r => OkL w0 P A c L w k l r e w'
 | .bad r => BadX P w r e w'
 | .tired => False
theorem LsI.done {es:List El} {g cap:Nat} {wr:World} {k':Nat} (h:LsI w0 P A c L w k es (.slice (some ⟨g,0,none⟩) es.length cap) wr k') (h0:0 < es.length) (hm:es.length<=1000):RowP (fun b => w.heap.size<=b) wr (some ⟨g,0,none⟩) (es.map El.x):=by
 have hg:=(h.own.lt g rfl).1
 have hr:=isP_row (P:=fun b => w.heap.size<=b) (d:=⟨0,0,0,⟨#[]⟩,⟨#[]⟩⟩) (es:=es) (g:=g) (w:=wr) (fun j hj => h.own.cellAt j hj) hg (by unfold maxLen; omega) (Nat.zero_le _) (Nat.zero_le _) (fun e he => (h.is e he).imp fun b hb _ => hb.1)
 exact (isP_mk.1 hr).2.2.2
def vlen:Value->Nat
 | .slice _ n _ => n
 | _ => 0
theorem ends_ok {o:Out} {x:Ex} {r:List Tk} (h:o=.ok [x] r) {e:Ending} {w':World} (he:Ends w0 P A c L w k o e w'):OkX w0 P A c L w k x r e w':=by subst h; exact he
theorem ends_bad {o:Out} {r:List Tk} (h:o=.bad r) {e:Ending} {w':World} (he:Ends w0 P A c L w k o e w'):BadX P w r e w':=by subst h; exact he
theorem infoEx:(Tryz.prog.info? 45).map (fun i => (i.zero,i.size,i.bytes))=some (some (.agg #[.int .i64 0,.int .i64 0,.int .i64 0,.string ⟨#[]⟩,.string ⟨#[]⟩,.slice none 0 0]),6,80):=by kernel_rfl
set_option maxRecDepth 100000 in
set_option maxHeartbeats 8000000 in
theorem list_any (hE:Env w0 P A L) (F:Nat) (hF:∀ f,f<=F->FormC w0 P A c L f) (n:Nat) (n1:1<=n) (n3:n<=3) (f:Nat) (hf:f<=F) (o:Out) (hS:St w0 P A c L w k) (hop:isNext [40] (L.drop k)=true) (hrun:run f (.list n []) (L.drop (k + 1))=o) (hne:o ≠ .tired) :
  Calls Tryz.prog 179 #[.pointer (some ⟨P,0,none⟩),.int .i64 (n:Int)] w (EndsL w0 P A c L w k o):=by
 obtain ⟨i0,hi,hz0,hz1,hz2⟩:=info_parts infoEx
 have hl:=hS.lt
 have hx:=expect_c hE hS ⟨#[40]⟩ hop
 have HX:=Lib.hid hx
 have HE:=Lib.hid hE
 have HF:=Lib.hid hF
 obtain ⟨f,rfl⟩:∃ g,f=g + 1:=by
  cases f with
  | zero => exact absurd hrun.symm hne
  | succ f => exact ⟨f,rfl⟩
 rw [run_list] at hrun
 clear hx hE hF hop hS
 go_enter Tryz.func179,Tryz.ntmps179
 go_wp2_with fail
 refine HX.out.mono ?_; rintro e w1 ⟨rfl,hk1,hS1,hg1⟩
 clear HX
 cases ho:run f (.form 0) (L.drop (k + 1)) with
 | tired => rw [ho] at hrun; exact absurd hrun.symm hne
 | bad r =>
  rw [ho] at hrun
  subst hrun
  have HC:=Lib.hid (HF.out f (by omega) 0 w1 (k + 1) _ (by omega) ho (by simp) hS1)
  have HG1:=Lib.hid hg1
  clear hS1 hg1 ho hne
  go_wp2_with fail
  refine HC.out.mono ?_; intro e w2 he
  obtain ⟨v,rfl,hw,hg2⟩:=ends_bad rfl he
  have HW:=Lib.hid (And.intro hw hg2)
  clear he hw hg2
  go_wp2_with fail
  exact ⟨rfl,v,rfl,HW.out.1,grown_trans HG1.out HW.out.2⟩
 | ok l1 r1 =>
  obtain ⟨x,rfl⟩:=run_form_one f _ _ _ _ (fun n acc => by simp) ho
  rw [ho] at hrun
  simp only [List.nil_append] at hrun
  have HC:=Lib.hid (HF.out f (by omega) 0 w1 (k + 1) _ (by omega) ho (by simp) hS1)
  have HG1:=Lib.hid hg1
  have HRun:=Lib.hid hrun
  have HNe:=Lib.hid hne
  clear hS1 hg1 ho hne hrun
  go_wp2_with fail
  refine HC.out.mono ?_; intro e w2 he
  obtain ⟨d,B,m,cp,k2,rfl,hx2,rfl,hk2,hS2,hg2⟩:=ends_ok rfl he
  have hgw:w.grownBy w2 (some P):=grown_trans HG1.out hg2
  have hsz1:=HG1.out.size
  have hsz2:=hg2.size
  have hI0:LsI w0 P A c L w k [⟨x,d,B,m,cp⟩] (.slice (some ⟨w2.heap.size,0,none⟩) 1 1) (w2.alloc (.cells #[.int .i64 d.op,.int .i64 d.k,.int .i64 d.n,.string d.s,.string d.nm,.slice B m cp] 45)) k2:=by
   refine ⟨⟨rfl,.inr ⟨w2.heap.size,1,#[.int .i64 d.op,.int .i64 d.k,.int .i64 d.n,.string d.s,.string d.nm,.slice B m cp],rfl,by omega,World.alloc_heap_new w2 _,Nat.le_refl _,by decide,rfl,rfl⟩⟩,fun e he => ?_,hS2.keep (b_new _ _),grown_trans hgw (grown_below (b_new _ _) _),by omega⟩
   simp at he; subst he
   exact IsP.keep (fun b _ hb => (b_new w2 _).block b hb) (fun b hb hlt => ⟨by have h1:w1.heap.size<=b:=hb; omega,by simp [Value.ownBlock]; omega⟩) _ _ _ _ hx2
  have HI0:=Lib.hid hI0
  clear hI0 he hx2 hS2 hg2 hgw HC HG1
  go_wp2_with fail
  go_loopw [5] (fun v wr => ∃ (es:List El) (f2 k':Nat),LsI w0 P A c L w k es v wr k'/\f2<=F/\cont f2 n (es.map El.x) (L.drop k')=o/\0 < es.length/\es.length<=n) (fun v _ => n - vlen v)
  case atStart => exact ⟨_,f,k2,HI0.out,by omega,HRun.out,by simp,by simp; omega⟩
  case round =>
   obtain ⟨es,f2,k',hI,hf2,hcont,hpos,hle⟩:=hrel
   obtain ⟨g,cap,rfl,hgl,hgs,hlc,hcm,hcl⟩:=own_form hI.own hpos
   have hlen:(es.map El.x).length=es.length:=List.length_map _
   unfold cont at hcont
   rw [hlen] at hcont
   by_cases hlt:es.length < n
   ·rw [if_pos hlt] at hcont
    have t1:(es.length:Int) < (n:Int):=by omega
    cases hc:isNext [44] (L.drop k') with
    | false =>
     rw [hc] at hcont
     simp only [Bool.false_eq_true,if_false] at hcont
     subst hcont
     have HX:=Lib.hid (expect_no HE.out hI.st ⟨#[44]⟩ hc)
     have HG:=Lib.hid hI.grown
     clear hI hcl hc HI0 HRun
     go_wp2_with fail
     refine HX.out.mono ?_; rintro e w3 ⟨v,rfl,hw,mm,rfl⟩
     have HW:=Lib.hid hw
     clear hw
     go_wp2_with fail
     exact ⟨rfl,v,rfl,HW.out,grown_trans HG.out (grown_below (b_drewN (Below.refl _ _) _) _)⟩
    | true =>
     rw [hc] at hcont
     simp only [if_true,List.tail_drop] at hcont
     have HX:=Lib.hid (expect_c HE.out hI.st ⟨#[44]⟩ hc)
     obtain ⟨f3,rfl⟩:∃ g,f2=g + 1:=by
      cases f2 with
      | zero => exact absurd hcont.symm HNe.out
      | succ f => exact ⟨f,rfl⟩
     rw [run_list] at hcont
     have HI:=Lib.hid hI
     clear hI hcl hc HI0 HRun
     go_wp2_with fail
     refine HX.out.mono ?_; rintro e w3 ⟨rfl,hk3,hS3,hg3⟩
     have hI3:=HI.out.keep hl hS3 hg3 (Nat.le_succ _)
     cases ho:run f3 (.form 0) (L.drop (k' + 1)) with
     | tired => rw [ho] at hcont; exact absurd hcont.symm HNe.out
     | bad r =>
      rw [ho] at hcont
      subst hcont
      have HC:=Lib.hid (HF.out f3 (by omega) 0 w3 (k' + 1) _ (by omega) ho (by simp) hS3)
      have HG:=Lib.hid hI3.grown
      clear hS3 hg3 ho hI3 HI HX
      go_wp2_with fail
      refine HC.out.mono ?_; intro e w4 he
      obtain ⟨v,rfl,hw,hg4⟩:=ends_bad rfl he
      have HW:=Lib.hid (And.intro hw hg4)
      clear he hw hg4
      go_wp2_with fail
      exact ⟨rfl,v,rfl,HW.out.1,grown_trans HG.out HW.out.2⟩
     | ok l2 r2 =>
      obtain ⟨y,rfl⟩:=run_form_one f3 _ _ _ _ (fun n acc => by simp) ho
      rw [ho] at hcont
      have HC:=Lib.hid (HF.out f3 (by omega) 0 w3 (k' + 1) _ (by omega) ho (by simp) hS3)
      have HI3:=Lib.hid hI3
      have HCont:=Lib.hid hcont
      clear hS3 hg3 ho hI3 HI HX hcont
      go_wp2_with fail
      refine HC.out.mono ?_; intro e w4 he
      obtain ⟨d4,B4,m4,cp4,k4,rfl,hx4,rfl,hk4,hS4,hg4⟩:=ends_ok rfl he
      have hown:=(HI3.out.own.kept hg4 (.inr (own_ne hl HI3.out.own))).alloc (.cells #[.int .i64 d4.op,.int .i64 d4.k,.int .i64 d4.n,.string d4.s,.string d4.nm,.slice B4 m4 cp4] 45)
      have hsz4:=hg4.size
      have hsz3:=HI3.out.grown.size
      have H4:=Lib.hid (And.intro hx4 (And.intro hS4 (And.intro hg4 hk4)))
      clear he hx4 hS4 hg4
      go_wp2_with (at_builtin; refine wpList_append_own_at _ rfl _ _ 43 rfl w.heap.size 45 i0 (.agg #[.int .i64 0,.int .i64 0,.int .i64 0,.string ⟨#[]⟩,.string ⟨#[]⟩,.slice none 0 0]) 6 80 Tryz.underlying43 hi hz0 hz1 hz2 rfl (by decide) _ _ _ rfl hown ⟨w4.heap.size,0,none⟩ 1 1 [.int .i64 d4.op,.int .i64 d4.k,.int .i64 d4.n,.string d4.s,.string d4.nm,.slice B4 m4 cp4] rfl rfl ?c1 ?c2 ?c3 ?c4 ?c5 ?_)
      case c1 => exact World.news_of_block (cs:=#[.int .i64 d4.op,.int .i64 d4.k,.int .i64 d4.n,.string d4.s,.string d4.nm,.slice B4 m4 cp4]) (t:=45) (fr:=(0,0)) (World.alloc_heap_new w4 _)
      case c2 => simp [Value.oneCell']
      case c3 => unfold maxLen; omega
      case c4 => omega
      case c5 => simp; omega
      intro v' w5 hown5 hgrow5 _ hloc
      have hN:=HI3.out.step hl HE.out.hP H4.out.1 H4.out.2.1 H4.out.2.2.1 H4.out.2.2.2 hown5 hgrow5 (by rw [World.size_alloc]; exact hloc)
      obtain ⟨A5,c5,rfl⟩:=own_slice hown5
      have HN:=Lib.hid hN
      clear hN hown5 hgrow5 hown hloc
      go_wp2_with fail
      go_roundw
      case rel => exact ⟨_,f3,k4,HN.out,by omega,by rw [List.map_append]; exact HCont.out,by simp,by simp; omega⟩
      case measure => simp [vlen]; omega
   ·have hn:n=es.length:=by omega
    subst hn
    rw [if_neg hlt] at hcont
    have t1:¬ (es.length:Int) < (es.length:Int):=by omega
    cases hc:isNext [41] (L.drop k') with
    | false =>
     rw [hc] at hcont
     simp only [Bool.false_eq_true,if_false] at hcont
     subst hcont
     have HX:=Lib.hid (expect_no HE.out hI.st ⟨#[41]⟩ hc)
     have HG:=Lib.hid hI.grown
     clear hI hcl hc HI0 HRun
     go_wp2_with fail
     refine HX.out.mono ?_; rintro e w3 ⟨v,rfl,hw,mm,rfl⟩
     have HW:=Lib.hid hw
     clear hw
     go_wp2_with fail
     exact ⟨rfl,v,rfl,HW.out,grown_trans HG.out (grown_below (b_drewN (Below.refl _ _) _) _)⟩
    | true =>
     rw [hc] at hcont
     simp only [if_true,List.tail_drop] at hcont
     subst hcont
     have HX:=Lib.hid (expect_c HE.out hI.st ⟨#[41]⟩ hc)
     have HI:=Lib.hid hI
     clear hI hcl hc HI0 HRun
     go_wp2_with fail
     refine HX.out.mono ?_; rintro e w3 ⟨rfl,hk3,hS3,hg3⟩
     have hI3:=HI.out.keep hl hS3 hg3 (Nat.le_succ _)
     have HR:=Lib.hid (hI3.done hpos (by omega))
     have HI3:=Lib.hid hI3
     clear hI3 hg3 hS3 HI HX
     go_wp2_with fail
     go_ret
     exact ⟨g,cap,k' + 1,by rw [hlen]; rfl,HR.out,rfl,HI3.out.le,HI3.out.st,HI3.out.grown,by rw [hlen]; omega⟩
end
end PsL
namespace PsA
open Go.RowKit
open LexM ExM Kit ExL ExP PsM PsT NmC Ps PsR PsL
set_option linter.unusedVariables false
section
variable {w0:World} {P:Nat} {A:Option Addr} {c:Nat} {L:List Tk} {w:World} {k:Nat}
set_option maxHeartbeats 2000000 in
theorem list_no (hE:Env w0 P A L) (n:Nat) (hS:St w0 P A c L w k) (hop:isNext [40] (L.drop k)=false) :
  Calls Tryz.prog 179 #[.pointer (some ⟨P,0,none⟩),.int .i64 (n:Int)] w (BadX P w (L.drop k)):=by
 have HX:=Lib.hid (expect_no hE hS ⟨#[40]⟩ hop)
 clear hS hE hop
 go_enter Tryz.func179,Tryz.ntmps179
 go_wp2_with fail
 refine HX.out.mono ?_; rintro e w3 ⟨v,rfl,hw,mm,rfl⟩
 have HW:=Lib.hid hw
 clear hw
 go_wp2_with fail
 exact ⟨rfl,v,rfl,HW.out,grown_below (b_drewN (Below.refl _ _) _) _⟩
theorem opAt6 {s:List UInt8} {op:Nat} (h:PsM.opAt 6 s=some op) (hs:s ≠ []):op < 19/\(op=17 ∨ op=18)/\(rw_ op).2.2=(arity op:Int)/\arity op<=3/\1<=arity op:=by
 obtain ⟨h1,h3,⟨h2,_⟩,_⟩:=opAt_some h hs
 obtain rfl | rfl | rfl | rfl | rfl | rfl | rfl | rfl | rfl | rfl | rfl | rfl | rfl | rfl | rfl | rfl:op=3 ∨ op=4 ∨ op=5 ∨ op=6 ∨ op=7 ∨ op=8 ∨ op=9 ∨ op=10 ∨ op=11 ∨ op=12 ∨ op=13 ∨ op=14 ∨ op=15 ∨ op=16 ∨ op=17 ∨ op=18:=by omega
 all_goals first
  | exact ⟨by decide,.inl rfl,rfl,by decide,by decide⟩
  | exact ⟨by decide,.inr rfl,rfl,by decide,by decide⟩
  | exact absurd h2 (by decide)
theorem box_new (hS:St w0 P A c L w k):St w0 P A c L (w.alloc (.cells #[.int .i64 0,.int .i64 0,.int .i64 0,.string ⟨#[]⟩,.string ⟨#[]⟩,.slice none 0 0] 45)) k:=hS.keep (b_new _ _)
theorem fin_box {V w1:World} {k':Nat} {x:Ex} {d:Nd} {B:Option Addr} {m cp:Nat} (hS:St w0 P A c L w k) (hE:Env w0 P A L) (hV:w.grownBy V (some P)) (hz:Boxz V w.heap.size) (hx:IsP (fun b => V.heap.size<=b) w1 x d B m) (hS1:St w0 P A c L w1 k') (hg:V.grownBy w1 (some P)) :
  Boxz w1 w.heap.size/\(IsP (fun b => w.heap.size<=b) (S6 w1 w.heap.size (.int .i64 d.op) (.int .i64 d.k) (.int .i64 d.n) (.string d.s) (.string d.nm) (.slice B m cp)) x d B m/\St w0 P A c L (S6 w1 w.heap.size (.int .i64 d.op) (.int .i64 d.k) (.int .i64 d.n) (.string d.s) (.string d.nm) (.slice B m cp)) k'/\w.grownBy (S6 w1 w.heap.size (.int .i64 d.op) (.int .i64 d.k) (.int .i64 d.n) (.string d.s) (.string d.nm) (.slice B m cp)) (some P)):=by
 have hl:=hS.lt
 have hzl:=(Array.getElem?_eq_some_iff.1 hz).1
 have hbz:=boxz_grown hz hg (by omega)
 exact ⟨hbz,put_res hS hE.hP (hx.imp fun b hb _ => by have h1:V.heap.size<=b:=hb; omega) hS1 hbz (grown_trans hV hg)⟩
set_option maxRecDepth 100000 in
set_option maxHeartbeats 8000000 in
theorem atom_any (hE:Env w0 P A L) (hFu:Full L) (hSm:Small L) (F:Nat) (hF:∀ f,f<=F->FormC w0 P A c L f) (f:Nat) (hf:f<=F) (o:Out) (hS:St w0 P A c L w k) (h5:opNext 5 (L.drop k)=none) (hrun:run (f + 1) (.form 5) (L.drop k)=o) (hne:o ≠ .tired) :
  Calls Tryz.prog 160 #[.pointer (some ⟨P,0,none⟩)] w (PsL.Ends w0 P A c L w k o):=by
 have hl:=hS.lt
 obtain ⟨V,hV⟩:∃ V,w.alloc (.cells #[.int .i64 0,.int .i64 0,.int .i64 0,.string ⟨#[]⟩,.string ⟨#[]⟩,.slice none 0 0] 45)=V:=⟨_,rfl⟩
 have hSV:=box_new hS
 have hzV:=boxz_at w
 have hbV:=b_new w (.cells #[.int .i64 0,.int .i64 0,.int .i64 0,.string ⟨#[]⟩,.string ⟨#[]⟩,.slice none 0 0] 45)
 rw [hV] at hSV hzV hbV
 have hI:=isNext_c hE hSV ⟨#[40]⟩
 cases hd:L.drop k with
 | nil =>
  obtain rfl:=drop_nil hd hS.le
  rw [hd] at hrun hI
  have ho:o=.bad []:=by rw [← hrun]; simp [run]
  subst ho
  have HI:=Lib.hid hI
  have HV:=Lib.hid hV
  have HSV:=Lib.hid hSV
  have HBV:=Lib.hid hbV
  clear hrun hI hV hbV hzV hF hS
  go_enter Tryz.func160,Tryz.ntmps160
  go_wp2_with fail
  rw [HV.out]
  refine HI.out.mono ?_; rintro e w1 ⟨rfl,m,rfl⟩
  have HO:=Lib.hid (operator_no hE (hSV.drew m) hFu 6 (by omega) (by rw [hd]; rfl))
  go_wp2_with fail
  refine HO.out.mono ?_; rintro e w2 ⟨rfl,hb2⟩
  have hS2:=(hSV.drew m).keep hb2
  have HX:=Lib.hid (single_end hE hS2)
  have HB2:=Lib.hid (HBV.out.trans ((b_drewN (Below.refl V.heap.size V) m).mono HBV.out.size |>.trans (hb2.mono HBV.out.size)))
  clear hS2 hb2 HO
  go_wp2_with fail
  refine HX.out.mono ?_; rintro e w3 ⟨v,rfl,hw,hg⟩
  have HW:=Lib.hid (And.intro hw hg)
  clear hw hg
  go_wp2_with fail
  exact ⟨rfl,v,rfl,HW.out.1,grown_trans (grown_below HB2.out _) HW.out.2⟩
 | cons t r =>
  obtain ⟨hk,ht,hr⟩:=drop_cons hd
  have hrun2:(if t.s=[40] then run f (.list 1 []) r else match PsM.opAt 6 t.s with
      | some op => if isNext [40] r then wrap op (run f (.list (arity op) []) r.tail) else .bad r
      | none => match leafN t with
       | some x => .ok [x] r
       | none => .bad (t :: r))=o:=by
   have h5':PsM.opAt 5 t.s=none:=by rw [hd] at h5; exact h5
   rw [hd] at hrun
   simp only [run,if_true,h5'] at hrun
   exact hrun
  clear hrun
  have hts:t.s ≠ []:=hFu t (by rw [ht]; exact List.getElem_mem _)
  rw [hd] at hI
  by_cases hp:t.s=[40]
  ·rw [if_pos hp] at hrun2
   have e1:isNext (ByteArray.mk #[40]).data.toList (t :: r)=true:=decide_eq_true hp
   have e2:isNext [40] (L.drop k)=true:=by rw [hd]; exact decide_eq_true hp
   rw [e1] at hI
   rw [hr] at hrun2
   have HI:=Lib.hid hI
   have HV:=Lib.hid hV
   have HBV:=Lib.hid hbV
   have HZ:=Lib.hid hzV
   have HS:=Lib.hid hS
   have hL:∀ m,Calls Tryz.prog 179 #[.pointer (some ⟨P,0,none⟩),.int .i64 (1:Int)] (V.drewN m) (EndsL w0 P A c L (V.drewN m) k (run f (.list 1 []) (L.drop (k + 1)))):=fun m => by
    have:=list_any hE F hF 1 (by omega) (by omega) f hf _ (hSV.drew m) e2 rfl (by rw [hrun2]; exact hne)
    exact this
   rw [hrun2] at hL
   have HL:=Lib.hid hL
   have HE:=Lib.hid hE
   clear hI hV hbV hzV hF hS hSV hL e1 e2 hE
   go_enter Tryz.func160,Tryz.ntmps160
   go_wp2_with fail
   rw [HV.out]
   refine HI.out.mono ?_; rintro e w1 ⟨rfl,m,rfl⟩
   have HVm:=Lib.hid (grown_below (HBV.out.trans ((b_drewN (Below.refl V.heap.size V) m).mono HBV.out.size)) (some P))
   have HZm:=Lib.hid (boxz_keep HZ.out (b_drewN (Below.refl V.heap.size V) m))
   go_wp2_with fail
   refine (HL.out m).mono ?_; intro e w2 he
   cases o with
   | tired => exact he.elim
   | bad r' =>
    obtain ⟨v,rfl,hw,hg⟩:=he
    have HW:=Lib.hid (And.intro hw hg)
    clear hw hg
    go_wp2_with fail
    exact ⟨rfl,v,rfl,HW.out.1,grown_trans HVm.out HW.out.2⟩
   | ok l r' =>
    obtain ⟨x,rfl⟩:∃ x,l=[x]:=by
     obtain ⟨y,hy⟩:=run_form_one.run_list_one f 1 [] _ _ _ (by simp) hrun2
     exact ⟨y,hy⟩
    obtain ⟨g,cp,k',rfl,hrow,rfl,hk',hS2,hg2,_⟩:=he
    obtain ⟨a,d,B,n,c2,hA2,hPa,hat,hix⟩:=hrow 0 (by simp)
    obtain rfl:(⟨g,0,none⟩:Addr)=a:=by injection hA2
    rw [show ((⟨g,0,none⟩:Addr).add (0 * 6))=⟨g,0,none⟩ from by simp [Addr.add]] at hat
    obtain ⟨q0,q1,q2,q3,q4,q5⟩:=hat
    obtain ⟨hbz,hend⟩:=fin_box (cp:=c2) HS.out HE.out HVm.out HZm.out hix hS2 hg2
    obtain ⟨z1,z2⟩:=cells_of hbz
    unfold S6 at hend
    have HEnd:=Lib.hid hend
    clear hend hbz hix hS2 hg2 hrow
    go_wp2_with fail
    refine bodyPost_ret (v:=.agg #[.int .i64 d.op,.int .i64 d.k,.int .i64 d.n,.string d.s,.string d.nm,.slice B n c2]) (by simp [results,Tryz.results160,go_sem,z1]) rfl ?_
    obtain ⟨e1,e2,e3⟩:=HEnd.out
    exact ⟨d,B,n,c2,k',rfl,e1,rfl,hk',e2,e3⟩
  ·rw [if_neg hp] at hrun2
   have e1:isNext (ByteArray.mk #[40]).data.toList (t :: r)=false:=decide_eq_false hp
   rw [e1] at hI
   cases h6:PsM.opAt 6 t.s with
   | some op =>
    simp only [h6] at hrun2
    have h6':opNext 6 (L.drop k)=some op:=by rw [hd]; exact h6
    obtain ⟨p1,p2,p3,p4,p5⟩:=opAt6 h6 hts
    have HI:=Lib.hid hI
    have HV:=Lib.hid hV
    have HBV:=Lib.hid hbV
    have HZ:=Lib.hid hzV
    have HS:=Lib.hid hS
    have HSV:=Lib.hid hSV
    have HO:=Lib.hid (fun m => operator_yes hE (hSV.drew m) hFu 6 op h6')
    have HE:=Lib.hid hE
    have HF:=Lib.hid hF
    have HRun:=Lib.hid hrun2
    have HNe:=Lib.hid hne
    have HR:=Lib.hid hr
    clear hI hV hbV hzV hF hS hSV hE hrun2 hne h6 h6' e1 h5 hd hr ht
    go_enter Tryz.func160,Tryz.ntmps160
    go_wp2_with fail
    rw [HV.out]
    refine HI.out.mono ?_; rintro e w1 ⟨rfl,m,rfl⟩
    have HVm:=Lib.hid (grown_below (HBV.out.trans ((b_drewN (Below.refl V.heap.size V) m).mono HBV.out.size)) (some P))
    have HZm:=Lib.hid (boxz_keep HZ.out (b_drewN (Below.refl V.heap.size V) m))
    go_wp2_with fail
    refine (HO.out m).mono ?_; rintro e w2 ⟨rfl,hk2,hS2,hg2⟩
    have hz2:=boxz_grown HZm.out hg2 (by omega)
    have hgw2:=grown_trans HVm.out hg2
    obtain ⟨_,_,y2⟩:=tab_cells (ExN.Tab.below HE.out.tab hS2.below) op p1
    rw [p3] at y2
    have hsz2:=hgw2.size
    have t3:((op:Int) == 0)=false:=beq_eq_false_iff_ne.2 (by omega)
    have t4:(op:Int) < 19:=by omega
    cases hn:isNext [40] r with
    | false =>
     have hrun:=HRun.out
     rw [hn] at hrun
     simp only [Bool.false_eq_true,if_false] at hrun
     subst hrun
     rw [HR.out] at hn
     have HL:=Lib.hid (list_no HE.out (arity op) hS2 hn)
     have HG:=Lib.hid hgw2
     clear hS2 hg2 hz2 hgw2 hn
     go_wp2_with fail
     refine HL.out.mono ?_; rintro e w3 ⟨v,rfl,hw,hg⟩
     have HW:=Lib.hid (And.intro hw hg)
     clear hw hg
     go_wp2_with fail
     exact ⟨rfl,v,rfl,by rw [HR.out]; exact HW.out.1,grown_trans HG.out HW.out.2⟩
    | true =>
     have hrun:=HRun.out
     rw [hn] at hrun
     simp only [if_true] at hrun
     rw [HR.out] at hrun hn
     rw [List.tail_drop] at hrun
     obtain ⟨o2,ho2⟩:∃ o2,run f (.list (arity op) []) (L.drop (k + 1 + 1))=o2:=⟨_,rfl⟩
     rw [ho2] at hrun
     have hne2:o2 ≠ .tired:=fun e => HNe.out (by rw [← hrun,e]; rfl)
     have HL:=Lib.hid (list_any HE.out F HF.out (arity op) p5 p4 f hf _ hS2 hn ho2 hne2)
     have HG:=Lib.hid hgw2
     have HZ2:=Lib.hid hz2
     have HG2:=Lib.hid hg2
     have HO2:=Lib.hid ho2
     clear hS2 hg2 hz2 hgw2 hn ho2 hne2
     go_wp2_with fail
     refine HL.out.mono ?_; intro e w3 he
     cases o2 with
     | tired => exact he.elim
     | bad r' =>
      obtain ⟨v,rfl,hw,hg⟩:=he
      subst hrun
      have HW:=Lib.hid (And.intro hw hg)
      clear hw hg
      go_wp2_with fail
      exact ⟨rfl,v,rfl,HW.out.1,grown_trans HG.out HW.out.2⟩
     | ok l r' =>
      obtain ⟨g,cp,k',rfl,hrow,rfl,hk',hS3,hg3,hlen⟩:=he
      subst hrun
      have hx:IsP (fun b => w2.heap.size<=b) w3 (opN op l) ⟨(op:Int),0,0,⟨#[]⟩,⟨#[]⟩⟩ (some ⟨g,0,none⟩) l.length:=RowP.mk_ hrow rfl (by unfold maxLen; omega) (Nat.zero_le _) (Nat.zero_le _)
      obtain ⟨hbz,hend⟩:=fin_box (cp:=cp) HS.out HE.out HG.out HZ2.out hx hS3 hg3
      obtain ⟨z1,z2⟩:=cells_of hbz
      unfold S6 at hend
      have HEnd:=Lib.hid hend
      clear hend hbz hx hS3 hg3 hrow y2
      go_wp2_with fail
      refine bodyPost_ret (v:=.agg #[.int .i64 (op:Int),.int .i64 0,.int .i64 0,.string ⟨#[]⟩,.string ⟨#[]⟩,.slice (some ⟨g,0,none⟩) l.length cp]) (by simp [results,Tryz.results160,go_sem,z1]) rfl ?_
      obtain ⟨e1,e2,e3⟩:=HEnd.out
      exact ⟨_,_,_,cp,k',rfl,e1,rfl,by omega,e2,e3⟩
   | none =>
    simp only [h6] at hrun2
    have h6':opNext 6 (L.drop k)=none:=by rw [hd]; exact h6
    have hx:∃ b x,((b=true/\leafN L[k]=some x) ∨ (b=false/\leafN L[k]=none/\x=.mk ⟨0,0,0,⟨#[]⟩,⟨#[]⟩⟩ []))/\o=if b then .ok [x] (L.drop (k + 1)) else .bad (L.drop k):=by
     rw [← ht]
     cases hlf:leafN t with
     | some x => rw [hlf] at hrun2; exact ⟨true,x,.inl ⟨rfl,rfl⟩,by rw [← hrun2,hr]; rfl⟩
     | none => rw [hlf] at hrun2; exact ⟨false,_,.inr ⟨rfl,rfl,rfl⟩,by rw [← hrun2,hd]; rfl⟩
    obtain ⟨b,x,hbx,ho⟩:=hx
    have HI:=Lib.hid hI
    have HV:=Lib.hid hV
    have HBV:=Lib.hid hbV
    have HZ:=Lib.hid hzV
    have HS:=Lib.hid hS
    have HSV:=Lib.hid hSV
    have HO:=Lib.hid (fun m => operator_no hE (hSV.drew m) hFu 6 (by omega) h6')
    have HE:=Lib.hid hE
    have HBx:=Lib.hid hbx
    have HOo:=Lib.hid ho
    clear hI hV hbV hzV hF hS hSV hE hrun2 hne h6 h6' e1 h5 hd hr hbx ho
    go_enter Tryz.func160,Tryz.ntmps160
    go_wp2_with fail
    rw [HV.out]
    refine HI.out.mono ?_; rintro e w1 ⟨rfl,m,rfl⟩
    go_wp2_with fail
    refine (HO.out m).mono ?_; rintro e w2 ⟨rfl,hb2⟩
    have hbm:=(b_drewN (Below.refl V.heap.size V) m)
    have hbV2:Below V.heap.size V w2:=hbm.trans (hb2.mono (by exact Nat.le_refl _))
    have hS2:=HSV.out.keep hbV2
    have hg2:w.grownBy w2 (some P):=grown_below (HBV.out.trans (hbV2.mono HBV.out.size)) _
    have hz2:=boxz_keep HZ.out hbV2
    have HX:=Lib.hid (single_any HE.out hS2 hk b x HBx.out hSm)
    have HG:=Lib.hid hg2
    have HZ2:=Lib.hid hz2
    clear hbm hb2 hbV2 hS2 hg2 hz2
    go_wp2_with fail
    refine HX.out.mono ?_; rintro e w3 ⟨hT,hFa⟩
    cases b with
    | false =>
     obtain ⟨v,rfl,hw,hg⟩:=hFa rfl
     obtain rfl:=HOo.out
     have HW:=Lib.hid (And.intro hw hg)
     clear hw hg hT hFa
     go_wp2_with fail
     exact ⟨rfl,v,rfl,HW.out.1,grown_trans HG.out HW.out.2⟩
    | true =>
     obtain ⟨d,B,n,c2,k',rfl,hix,hr',hk',hS3,hg3⟩:=hT rfl
     obtain rfl:=HOo.out
     obtain ⟨hbz,hend⟩:=fin_box (cp:=c2) HS.out HE.out HG.out HZ2.out hix hS3 hg3
     obtain ⟨z1,z2⟩:=cells_of hbz
     unfold S6 at hend
     have HEnd:=Lib.hid hend
     have HR':=Lib.hid hr'
     clear hend hbz hix hS3 hg3 hT hFa hr'
     go_wp2_with fail
     refine bodyPost_ret (v:=.agg #[.int .i64 d.op,.int .i64 d.k,.int .i64 d.n,.string d.s,.string d.nm,.slice B n c2]) (by simp [results,Tryz.results160,go_sem,z1]) rfl ?_
     obtain ⟨e1,e2,e3⟩:=HEnd.out
     exact ⟨d,B,n,c2,k',rfl,e1,HR'.out,hk',e2,e3⟩
end
end PsA
end Go.Proofs.YtjhhmdmmllblhaaGreatDoor
