/- Pg TxTie TxTwice RawN RkMath: what these laws name of them. -/
import Derived.Test.YtonlkmkfcaadlaaGreatDoorKw12
namespace Go.Proofs.YtonlkmkfcaadlaaGreatDoor
set_option linter.unusedVariables false
namespace PgM
open Go.RowKit
open ValM LexM NumM ExM NmM Kit ExL ExP ExN ExC RawV Within RawL GenL FldP FldR FldC FrmM TyM Ty NmC NmP NmA NmT SMp
set_option linter.unusedVariables false
def PgAt (w:World) (p:Addr) (e:PE):Prop :=
 w.cell? p=some (.string e.nm)/\w.cell? ⟨p.block,p.off + 1,none⟩=some (.slice e.F e.fs.length e.fc)/\w.cell? ⟨p.block,p.off + 2,none⟩=some (.int .i64 e.x.d.op)/\w.cell? ⟨p.block,p.off + 3,none⟩=some (.int .i64 e.x.d.k)/\w.cell? ⟨p.block,p.off + 4,none⟩=some (.int .i64 e.x.d.n) ∧
 w.cell? ⟨p.block,p.off + 5,none⟩=some (.string e.x.d.s)/\w.cell? ⟨p.block,p.off + 6,none⟩=some (.string e.x.d.nm)/\w.cell? ⟨p.block,p.off + 7,none⟩=some (.slice e.B e.m e.c)
theorem PgAt.of_block {w w':World} {p:Addr} {e:PE} (h:PgAt w p e) (hb:w'.heap[p.block]?=w.heap[p.block]?):PgAt w' p e:=by
 have k:∀ q:Addr,q.block=p.block->w'.cell? q=w.cell? q:=fun q hq => World.cell?_of_block (by rw [hq]; exact hb)
 obtain ⟨a0,a1,a2,a3,a4,a5,a6,a7⟩:=h
 exact ⟨(k p rfl).trans a0,(k ⟨p.block,p.off + 1,none⟩ rfl).trans a1,(k ⟨p.block,p.off + 2,none⟩ rfl).trans a2,(k ⟨p.block,p.off + 3,none⟩ rfl).trans a3,(k ⟨p.block,p.off + 4,none⟩ rfl).trans a4,(k ⟨p.block,p.off + 5,none⟩ rfl).trans a5,(k ⟨p.block,p.off + 6,none⟩ rfl).trans a6,(k ⟨p.block,p.off + 7,none⟩ rfl).trans a7⟩
theorem PgAt.lt {w:World} {p:Addr} {e:PE} (h:PgAt w p e):p.block < w.heap.size:=cell_lt' h.1
def Pgs (w:World) (A:Option Addr) (ps:List PE):Prop:=∀ (i:Nat) (h:i < ps.length),∃ a,A=some a/\PgAt w (a.add (i * 8)) ps[i]
theorem Pgs.below {w w':World} {A:Option Addr} {ps:List PE} (h:Pgs w A ps) (hb:Below w.heap.size w w'):Pgs w' A ps:=fun i hi => by
 obtain ⟨a,e,hf⟩:=h i hi
 exact ⟨a,e,hf.of_block (hb.block _ hf.lt)⟩
theorem Pgs.take {w:World} {A:Option Addr} {ps:List PE} (h:Pgs w A ps) (k:Nat):Pgs w A (ps.take k):=fun i hi => by
 obtain ⟨a,e,hf⟩:=h i (by simp at hi; omega)
 exact ⟨a,e,by simpa using hf⟩
def TRow (w:World) (A:Option Addr) (L:List ByteArray):Prop:=∀ (j:Nat) (h:j < L.length),∃ a:Addr,A=some a/\w.cell? (a.add j)=some (.string L[j])
theorem TRow.below {w w':World} {A:Option Addr} {L:List ByteArray} (h:TRow w A L) (hb:Below w.heap.size w w'):TRow w' A L:=fun j hj => by
 obtain ⟨a,e,hc⟩:=h j hj
 exact ⟨a,e,(hb.cell (cell_lt' hc)).trans hc⟩
structure PgOk (w:World) (e:PE):Prop where
 nm:e.nm.size<=maxLen
 row:TRow w e.F e.fs
 txt:∀ s ∈ e.fs,s.size<=maxLen
 len:e.fs.length<=maxLen
 skip:Is w e.x e.x.d e.B e.m
theorem PgOk.below {w w':World} {e:PE} (h:PgOk w e) (hb:Below w.heap.size w w'):PgOk w' e:=⟨h.nm,h.row.below hb,h.txt,h.len,h.skip.below hb⟩
def PgsOk (w:World) (ps:List PE):Prop:=∀ e ∈ ps,PgOk w e
theorem PgsOk.below {w w':World} {ps:List PE} (h:PgsOk w ps) (hb:Below w.heap.size w w'):PgsOk w' ps:=fun e he => (h e he).below hb
def pgBox (e:PE):Obj:=.cells #[.string e.nm,.slice e.F e.fs.length e.fc,.int .i64 e.x.d.op,.int .i64 e.x.d.k,.int .i64 e.x.d.n,.string e.x.d.s,.string e.x.d.nm,.slice e.B e.m e.c] 85
theorem pg_cells (w:World) (e:PE) (V:World) (hV:Below (w.alloc (pgBox e)).heap.size (w.alloc (pgBox e)) V):V.cell? ⟨w.heap.size,0,none⟩=some (.string e.nm)/\V.cell? ⟨w.heap.size,1,none⟩=some (.slice e.F e.fs.length e.fc)/\V.cell? ⟨w.heap.size,2,none⟩=some (.int .i64 e.x.d.op)/\V.cell? ⟨w.heap.size,3,none⟩=some (.int .i64 e.x.d.k)/\V.cell? ⟨w.heap.size,4,none⟩=some (.int .i64 e.x.d.n)/\V.cell? ⟨w.heap.size,5,none⟩=some (.string e.x.d.s)/\V.cell? ⟨w.heap.size,6,none⟩=some (.string e.x.d.nm)/\V.cell? ⟨w.heap.size,7,none⟩=some (.slice e.B e.m e.c):=by
 have e1:V.heap[w.heap.size]?=_:=(hV.block _ (by simp)).trans (World.alloc_heap_new w (pgBox e))
 unfold pgBox at e1
 exact ⟨by simp [World.cell?,e1],by simp [World.cell?,e1],by simp [World.cell?,e1],by simp [World.cell?,e1],by simp [World.cell?,e1],by simp [World.cell?,e1],by simp [World.cell?,e1],by simp [World.cell?,e1]⟩
theorem fi_hit {α:Type} {P:α->Bool} {l:List α} {k:Nat} (hk:k < l.length) (h:∀ j (hj:j < l.length),j < k->P l[j]=false) (he:P l[k]=true):l.findIdx P=k :=
 (List.findIdx_eq hk).2 ⟨he,fun j hj => h j (by omega) hj⟩
theorem fi_none {α:Type} {P:α->Bool} {l:List α} (h:∀ j (hj:j < l.length),P l[j]=false):l.findIdx P=l.length :=
 List.findIdx_eq_length.2 fun x hx => by
  obtain ⟨j,hj,rfl⟩:=List.mem_iff_getElem.1 hx
  exact h j hj
theorem fi_at {α:Type} {P:α->Bool} {l:List α} (h:l.findIdx P < l.length):P l[l.findIdx P]=true/\∀ j (hj:j < l.length),j < l.findIdx P->P l[j]=false :=
 ⟨List.findIdx_getElem,fun j hj hlt => by simpa using List.not_of_lt_findIdx hlt⟩
theorem fi_take {α:Type} {P:α->Bool} {l:List α} {k:Nat} (hk:k<=l.length):(l.take k).findIdx P < k ↔ l.findIdx P < k:=by
 have hl:(l.take k).length=k:=by rw [List.length_take]; omega
 constructor
 ·intro h
  obtain ⟨h1,h2⟩:=fi_at (l:=l.take k) (P:=P) (by omega)
  have:=fi_hit (l:=l) (P:=P) (k:=(l.take k).findIdx P) (by omega) (fun j hj hjk => by have:=h2 j (by omega) hjk; simpa using this) (by simpa using h1)
  omega
 ·intro h
  obtain ⟨h1,h2⟩:=fi_at (l:=l) (P:=P) (by omega)
  have:=fi_hit (l:=l.take k) (P:=P) (k:=l.findIdx P) (by omega) (fun j hj hjk => by have:=h2 j (by omega) hjk; simpa using this) (by simpa using h1)
  omega
def nmP (s:ByteArray) (e:PE):Bool:=decide (e.nm=s)
def pAt (ps:List PE) (s:ByteArray):Nat:=ps.findIdx (nmP s)
def metP (ps:List PE) (k:Nat):List ByteArray:=((ps.take k).map PE.fs).flatten
def nameE (fs:List GenL.Fd) (met L:List ByteArray) (j:Nat):Int :=
 if h:j < L.length then (if atF fs L[j] < fs.length then (if hasB (met ++ L.take j) L[j]=true then 6 else 0) else 5) else 0
/-- One page. -/
def pageE (fs : List GenL.Fd) (ps : List PE) (k : Nat) : Int :=
  if h : k < ps.length then
    (if LexB.nameE ps[k].nm.data.toList = 0 then (if pAt ps ps[k].nm < k then 6 else if scan (nameE fs (metP ps k) ps[k].fs) ps[k].fs.length = 0 then (if bareB ps[k].x.d ps[k].m = true then 0 else fitsT (fts fs) ps[k].x 2) else scan (nameE fs (metP ps k) ps[k].fs) ps[k].fs.length)
     else LexB.nameE ps[k].nm.data.toList) else 0
def checkP (fs:List GenL.Fd) (ps:List PE):Int:=if ps.length=0 ∨ 6 < ps.length then 1 else scan (pageE fs ps) ps.length
theorem metP_zero (ps:List PE):metP ps 0=[]:=rfl
theorem metP_succ (ps:List PE) (k:Nat) (h:k < ps.length):metP ps (k + 1)=metP ps k ++ ps[k].fs:=by
 unfold metP
 rw [List.take_succ_eq_append_getElem h,List.map_append,List.flatten_append]
 simp
end PgM
namespace PgA
open Go.RowKit
open ValM LexM NumM ExM NmM Kit ExL ExP ExV NmC NmP NmA NmT RawV Within GenL FldP FrmM PgM
set_option linter.unusedVariables false
def firstE (n k:Nat):Value:=.tuple #[.int .i64 (if k < n then (k:Int) else 0),.int .i64 (if k < n then 0 else 5)]
set_option maxHeartbeats 1000000 in
theorem findC_any (s:ByteArray) (B:Nat) (e:PE) (W:World) (hB:W.cell? ⟨B,0,none⟩=some (.string s)) :
  Calls Tryz.prog 158 #[.agg #[.string e.nm,.slice e.F e.fs.length e.fc,.int .i64 e.x.d.op,.int .i64 e.x.d.k,.int .i64 e.x.d.n,.string e.x.d.s,.string e.x.d.nm,.slice e.B e.m e.c],.pointer (some ⟨B,0,none⟩)] W fun r w' => r=.returned (.bool (nmP s e))/\Below W.heap.size W w':=by
 have hb:=b_new W (pgBox e)
 have hBl:=World.block_lt_of_cell? W _ hB
 have hB1:=(hb.cell (p:=⟨B,0,none⟩) hBl).trans hB
 have hk:(e.nm.toList == s.toList)=nmP s e:=by
  unfold nmP
  by_cases h:e.nm=s
  ·rw [decide_eq_true h]; exact eq_t h
  ·rw [decide_eq_false h]; exact eq_f h
 have HK:=Lib.hid hk
 have HB:=Lib.hid hb
 unfold pgBox at hB1 HB
 clear hb hk
 go_enter Tryz.func158,Tryz.ntmps158
 go_wp2_with fail
 go_ret
 exact ⟨by rw [← HK.out]; rfl,HB.out⟩
set_option maxHeartbeats 2000000 in
theorem indexFind_any (s:ByteArray) (B:Nat) (ps:List PE) (A:Option Addr) (c:Nat) (W:World) (hB:W.cell? ⟨B,0,none⟩=some (.string s)) (hn:ps.length<=maxLen) (h:Pgs W A ps) :
  Calls Tryz.prog 179 #[.slice A ps.length c,.func (.func 158) #[] #[.pointer (some ⟨B,0,none⟩)]] W fun r w' => r=.returned (.int .i64 (if pAt ps s < ps.length then (pAt ps s:Int) else -1))/\Below W.heap.size W w':=by
 obtain ⟨R,hR⟩:∃ R:Int,(if pAt ps s < ps.length then (pAt ps s:Int) else -1)=R:=⟨_,rfl⟩
 have hgood:∀ k (hk:k < ps.length),(∀ j (hj:j < ps.length),j < k->nmP s ps[j]=false)->nmP s ps[k]=true->R=(k:Int):=fun k hk h he => by
  have e:pAt ps s=k:=fi_hit hk h he
  rw [← hR,e,if_pos hk]
 have hbad:(∀ j (hj:j < ps.length),nmP s ps[j]=false)->R=-1:=fun h => by
  have e:pAt ps s=ps.length:=fi_none h
  rw [← hR,e,if_neg (Nat.lt_irrefl _)]
 rw [hR]
 have hcl:=fun (e:PE) (V:World) (hV:Below W.heap.size W V) => findC_any s B e V ((hV.cell (p:=⟨B,0,none⟩) (World.block_lt_of_cell? W _ hB)).trans hB)
 have HG:=Lib.hid hgood
 have HBd:=Lib.hid hbad
 have HP:=Lib.hid h
 have HC:=Lib.hid hcl
 clear hgood hbad hR h hB hcl
 unfold maxLen at hn
 go_enter Tryz.func179,Tryz.ntmps179
 go_wp2_with fail
 go_loopw [5,8] (fun _ i wr => ∃ (k:Nat),i=.int .i64 k/\k<=ps.length/\(∀ j (hj:j < ps.length),j < k->nmP s ps[j]=false)/\Below W.heap.size W wr) (fun _ i _ => ps.length - (intOf i).toNat)
 case atStart => exact ⟨0,rfl,Nat.zero_le _,fun j hj hjk => absurd hjk (by omega),Below.refl _ _⟩
 case round =>
  obtain ⟨k,rfl,hk,hall,hb⟩:=hrel
  by_cases hlt:k < ps.length
  ·obtain ⟨a,rfl,hat⟩:=HP.out k hlt
   obtain ⟨q0,q1,q2,q3,q4,q5,q6,q7⟩:=hat.of_block (hb.block _ hat.lt)
   have hg:=HG.out k hlt hall
   have hnext:nmP s ps[k]=false->∀ j (hj:j < ps.length),j < k + 1->nmP s ps[j]=false:=fun e j hj hjk => by
    rcases Nat.lt_or_ge j k with h | h
    ·exact hall j hj h
    ·obtain rfl:j=k:=by omega
     exact e
   obtain ⟨e,hek⟩:∃ e,ps[k]=e:=⟨_,rfl⟩
   rw [hek] at q0 q1 q2 q3 q4 q5 q6 q7 hg hnext
   have hc:=HC.out e wr hb
   have HC1:=Lib.hid hc
   have HG2:=Lib.hid hg
   have HN:=Lib.hid hnext
   have HBl:=Lib.hid hb
   clear hg hnext hall hek hat hb hc
   generalize nmP s e=bb at HC1 HG2 HN
   go_wp2_with fail
   refine HC1.out.mono ?_; rintro r w1 ⟨rfl,hb1⟩
   have HB1:=Lib.hid (b_trans HBl.out hb1)
   clear hb1
   cases bb with
   | true =>
    obtain rfl:=HG2.out rfl
    go_wp2_with fail
    go_ret
    exact ⟨rfl,HB1.out⟩
   | false =>
    have HN2:=Lib.hid (HN.out rfl)
    go_wp2_with fail
    go_roundw
    case rel => exact ⟨k + 1,by go_num,by omega,HN2.out,HB1.out⟩
    case measure => simp [intOf]; omega
  ·obtain rfl:=HBd.out fun j hj => hall j hj (by omega)
   have HBl:=Lib.hid hb
   clear hall hb
   go_wp2_with fail
   go_ret
   exact ⟨rfl,HBl.out⟩
set_option maxHeartbeats 1000000 in
theorem firstFind_any (s:ByteArray) (B:Nat) (ps:List PE) (A:Option Addr) (c:Nat) (W:World) (hB:W.cell? ⟨B,0,none⟩=some (.string s)) (hn:ps.length<=maxLen) (h:Pgs W A ps) :
  Calls Tryz.prog 157 #[.slice A ps.length c,.func (.func 158) #[] #[.pointer (some ⟨B,0,none⟩)]] W fun r w' => r=.returned (firstE ps.length (pAt ps s))/\Below W.heap.size W w':=by
 have hc:=indexFind_any s B ps A c W hB hn h
 unfold firstE
 generalize pAt ps s=k at hc ⊢
 have HC:=Lib.hid hc
 clear hc h hB
 by_cases hk:k < ps.length
 ·rw [if_pos hk] at HC
  rw [if_pos hk,if_pos hk]
  have t1:¬ (k:Int) < 0:=by omega
  clear hk
  go_enter Tryz.func157,Tryz.ntmps157
  go_wp2_with fail
  refine HC.out.mono ?_; rintro r w1 ⟨rfl,hb1⟩
  have HB1:=Lib.hid hb1
  clear hb1
  go_wp2_with fail
  go_ret2
  exact ⟨rfl,HB1.out⟩
 ·rw [if_neg hk] at HC
  rw [if_neg hk,if_neg hk]
  clear hk
  go_enter Tryz.func157,Tryz.ntmps157
  go_wp2_with fail
  refine HC.out.mono ?_; rintro r w1 ⟨rfl,hb1⟩
  have HB1:=Lib.hid hb1
  clear hb1
  go_wp2_with fail
  go_ret2
  exact ⟨rfl,HB1.out⟩
set_option maxHeartbeats 1000000 in
theorem find_any (s:ByteArray) (ps:List PE) (A:Option Addr) (c:Nat) (w:World) (hn:ps.length<=maxLen) (h:Pgs w A ps) :
  Calls Tryz.prog 125 #[.slice A ps.length c,.string s] w fun r w' => r=.returned (firstE ps.length (pAt ps s))/\Below w.heap.size w w':=by
 have hb:=b_new w (.cells #[.string s] 9)
 have hB:(w.alloc (.cells #[.string s] 9)).cell? ⟨w.heap.size,0,none⟩=some (.string s):=by unfold World.cell?; rw [World.alloc_heap_new]; rfl
 have hc:=firstFind_any s w.heap.size ps A c _ hB hn (h.below hb)
 unfold firstE at hc ⊢
 have HC:=Lib.hid hc
 have HB:=Lib.hid hb
 generalize (if pAt ps s < ps.length then (pAt ps s:Int) else 0)=r1 at HC ⊢
 generalize (if pAt ps s < ps.length then (0:Int) else 5)=r2 at HC ⊢
 clear hc hb hB h
 go_enter Tryz.func125,Tryz.ntmps125
 go_wp2_with fail
 refine HC.out.mono ?_; rintro r w1 ⟨rfl,hb1⟩
 have HB1:=Lib.hid (b_trans HB.out hb1)
 clear hb1
 go_wp2_with fail
 go_ret2
 exact ⟨rfl,HB1.out⟩
end PgA
namespace PgB
open Go.RowKit Go.Maps
open ValM LexM NumM ExM NmM Kit ExL ExP ExN ExC NmC NmP NmA NmT RawV Within RawL GenL FldP FldR FldC FrmM TyM Ty TyO SMp PgM PgA
set_option linter.unusedVariables false
def exBox (e:PE):Obj:=.cells #[.int .i64 e.x.d.op,.int .i64 e.x.d.k,.int .i64 e.x.d.n,.string e.x.d.s,.string e.x.d.nm,.slice e.B e.m e.c] 41
set_option maxRecDepth 100000 in
set_option maxHeartbeats 4000000 in
theorem never_any (e:PE) (w:World):Calls Tryz.prog 127 #[.agg #[.string e.nm,.slice e.F e.fs.length e.fc,.int .i64 e.x.d.op,.int .i64 e.x.d.k,.int .i64 e.x.d.n,.string e.x.d.s,.string e.x.d.nm,.slice e.B e.m e.c]] w fun r w' => r=.returned (.bool (bareB e.x.d e.m))/\Below w.heap.size w w':=by
 have hbb:=b_more (b_new w (pgBox e)) (exBox e)
 have HBb:=Lib.hid hbb
 unfold pgBox exBox at HBb
 clear hbb
 obtain ⟨b,hb⟩:∃ b,bareB e.x.d e.m=b:=⟨_,rfl⟩
 rw [hb]
 unfold bareB at hb
 generalize e.x.d=d at *
 generalize e.m=n at *
 by_cases h1:d.op=0
 ·have t1:(d.op == 0)=true:=beq_iff_eq.2 h1
  rw [decide_eq_true h1,Bool.true_and] at hb
  clear h1
  by_cases h2:d.k=0/\d.n=0/\d.s=⟨#[]⟩
  ·obtain ⟨h2,h3,h4⟩:=h2
   have t2:(d.k == 0)=true:=beq_iff_eq.2 h2
   have t3:(d.n == 0)=true:=beq_iff_eq.2 h3
   have t4:=empty_t h4
   rw [decide_eq_true h2,decide_eq_true h3,decide_eq_true h4,Bool.true_and,Bool.true_and,Bool.true_and] at hb
   clear h2 h3 h4
   by_cases h5:d.nm=⟨#[]⟩
   ·have t5:=empty_t h5
    rw [decide_eq_true h5,Bool.true_and] at hb
    clear h5
    have t6:((n:Int) == 0)=b:=by
     rw [← hb]
     by_cases h6:n=0
     ·subst h6; rfl
     ·rw [decide_eq_false h6]; exact beq_eq_false_iff_ne.2 (by omega)
    clear hb
    cases b
    all_goals
     go_enter Tryz.func127,Tryz.ntmps127
     go_wp2
     go_ret
     exact ⟨rfl,HBb.out⟩
   ·have t5:=empty_n h5
    rw [decide_eq_false h5,Bool.false_and] at hb
    subst hb
    clear h5
    go_enter Tryz.func127,Tryz.ntmps127
    go_wp2
    go_ret
    exact ⟨rfl,HBb.out⟩
  ·have e:b=false:=by
    rw [← hb]
    cases e1:decide (d.k=0) <;> cases e2:decide (d.n=0) <;> cases e3:decide (d.s=⟨#[]⟩) <;> simp_all
   subst e
   clear hb
   by_cases g2:d.k=0
   ·have t2:(d.k == 0)=true:=beq_iff_eq.2 g2
    by_cases g3:d.n=0
    ·have t3:(d.n == 0)=true:=beq_iff_eq.2 g3
     have t4:=empty_n fun g4 => h2 ⟨g2,g3,g4⟩
     clear h2 g2 g3
     go_enter Tryz.func127,Tryz.ntmps127
     go_wp2
     go_ret
     exact ⟨rfl,HBb.out⟩
    ·have t3:(d.n == 0)=false:=beq_eq_false_iff_ne.2 g3
     clear h2 g2 g3
     go_enter Tryz.func127,Tryz.ntmps127
     go_wp2
     go_ret
     exact ⟨rfl,HBb.out⟩
   ·have t2:(d.k == 0)=false:=beq_eq_false_iff_ne.2 g2
    clear h2 g2
    go_enter Tryz.func127,Tryz.ntmps127
    go_wp2
    go_ret
    exact ⟨rfl,HBb.out⟩
 ·have t1:(d.op == 0)=false:=beq_eq_false_iff_ne.2 h1
  rw [decide_eq_false h1] at hb
  simp only [Bool.false_and] at hb
  subst hb
  clear h1
  go_enter Tryz.func127,Tryz.ntmps127
  go_wp2
  go_ret
  exact ⟨rfl,HBb.out⟩
def plM (fs:List GenL.Fd) (met:List ByteArray) (s:ByteArray):Option Value:=if atF fs s < fs.length then some (.bool (hasB met s)) else none
def unM (fs:List GenL.Fd) (k:Nat) (s:ByteArray):Option Value:=if atF fs s < k then some (.bool false) else none
theorem unM_zero (fs:List GenL.Fd) (s:ByteArray):none=unM fs 0 s:=by unfold unM; rw [if_neg (Nat.not_lt_zero _)]
theorem unM_last (fs:List GenL.Fd) (s:ByteArray):unM fs fs.length s=plM fs [] s:=by unfold unM plM; rw [hasB_nil]
theorem unM_step (fs:List GenL.Fd) (k:Nat) (hk:k < fs.length) (s:ByteArray):(if s=fs[k].nm then some (.bool false) else unM fs k s)=unM fs (k + 1) s:=by
 unfold unM
 by_cases e:s=fs[k].nm
 ·rw [if_pos e,if_pos]
  rcases Nat.lt_or_ge k (atF fs s) with h | h
  ·exfalso
   by_cases h2:atF fs s < fs.length
   ·exact (atF_at h2).2 k hk h e.symm
   ·by_cases h7:∃ j,∃ hj:j < fs.length,fs[j].nm=s/\∀ i (hi:i < fs.length),i < j->fs[i].nm ≠ s
    ·obtain ⟨j,hj,e2,hm⟩:=h7
     have:=atF_eq fs s j hj hm e2
     omega
    ·have h8:∀ j (hj:j < fs.length),fs[j].nm ≠ s:=fun j => by
      refine Nat.strongRecOn j fun j ih hj e => h7 ⟨j,hj,e,fun i hi hij => ih i hij hi⟩
     exact h8 k hk e.symm
  ·omega
 ·rw [if_neg e]
  by_cases h:atF fs s < k
  ·rw [if_pos h,if_pos (by omega)]
  ·rw [if_neg h,if_neg]
   intro h2
   have h3:atF fs s=k:=by omega
   have h4:=(atF_at (fs:=fs) (s:=s) (by omega)).1
   simp only [h3] at h4
   exact e h4.symm
theorem plM_step (fs:List GenL.Fd) (met:List ByteArray) (t:ByteArray) (h:atF fs t < fs.length) (s:ByteArray):(if s=t then some (.bool true) else plM fs met s)=plM fs (met ++ [t]) s:=by
 unfold plM
 by_cases e:s=t
 ·subst e
  rw [if_pos rfl,if_pos h,hasB_append,hasB_cons]; simp
 ·rw [if_neg e,hasB_append,hasB_cons,hasB_nil,decide_eq_false (fun h => e h.symm)]; simp
theorem look_bool {W:World} {m n:Nat} {M:ByteArray->Option Value} (h:SM W m n M) (s:ByteArray) (hs:s.size<=maxLen) :
  (Instr.lookup 145 (.map (some m)) (.string s) true).run Tryz.prog W=.ok (.tuple #[(M s).getD (.bool false),.bool (M s).isSome]) W:=h.look Tryz.underlying145 (by kernel_rfl) s hs
theorem put_bool {W:World} {m n:Nat} {M:ByteArray->Option Value} (h:SM W m n M) (s:ByteArray) (hs:s.size<=maxLen) (v:Value) (hn:n < maxLen) :
  ∃ w',(Instr.mapUpdate 145 (.map (some m)) (.string s) v).run Tryz.prog W=.ok () w'/\SM w' m (n + 1) (fun t => if t=s then some v else M t)/\W.grownBy w' (some m):=h.put Tryz.underlying145 s hs v hn
theorem b_grown {B:Nat} {a w w':World} {m:Nat} (h:Below B a w) (hg:w.grownBy w' (some m)) (hB:B<=w.heap.size) (hm:B<=m):Below B a w':=h.grown hg hB (fun k e => by injection e with e; omega)
theorem g_trans {a b c:World} {m:Nat} (h:a.grownBy b (some m)) (k:b.grownBy c (some m)):a.grownBy c (some m):=h.andThen k fun j e => .inr e
set_option maxRecDepth 100000 in
set_option maxHeartbeats 4000000 in
theorem unplaced_any (fs:List GenL.Fd) (FA:Option Addr) (fc:Nat) (w:World) (hm:fs.length<=1048576) (hf:Flds w FA fs) (hz:∀ (k:Nat) (h:k < fs.length),fs[k].nm.size<=maxLen) :
  Calls Tryz.prog 123 #[.slice FA fs.length fc] w fun r w' => ∃ m,r=.returned (.map (some m))/\w.heap.size<=m/\SM w' m fs.length (plM fs [])/\Below w.heap.size w w':=by
 have hmm:=@run_makeMap Tryz.prog
 obtain ⟨W1,hW1⟩:∃ V,w.alloc (.map #[] 0)=V:=⟨_,rfl⟩
 have hs0:SM W1 w.heap.size 0 (unM fs 0):=by rw [← hW1]; exact (SM.made w).to fun s => unM_zero fs s
 have hb1:Below w.heap.size w W1:=by rw [← hW1]; exact b_new w _
 have HS0:=Lib.hid hs0
 have HB1:=Lib.hid hb1
 have HW1:=Lib.hid hW1
 have HF:=Lib.hid hf
 have HZ:=Lib.hid hz
 obtain ⟨m,hmm2⟩:∃ m,w.heap.size=m:=⟨_,rfl⟩
 have hwm:w.heap.size<=m:=Nat.le_of_eq hmm2
 rw [hmm2] at HS0
 have HM:=Lib.hid hmm2
 clear hs0 hb1 hW1 hf hz hmm2
 go_enter Tryz.func123,Tryz.ntmps123
 go_wp2_with fail
 rw [HW1.out,HM.out]
 go_loopw [5,9] (fun _ ii wr => ∃ k:Nat,ii=.int .i64 k/\k<=fs.length/\SM wr m k (unM fs k)/\Below w.heap.size w wr) (fun _ ii _ => fs.length - (intOf ii).toNat)
 case atStart => exact ⟨0,rfl,Nat.zero_le _,HS0.out,HB1.out⟩
 case round =>
  obtain ⟨k,rfl,hk,hsm,hb⟩:=hrel
  by_cases hlt:k < fs.length
  ·obtain ⟨ad,rfl,hat⟩:=HF.out.below hb k hlt
   have hnz:=HZ.out k hlt
   have hstep:=unM_step fs k hlt
   obtain ⟨f,hfk⟩:∃ f,fs[k]=f:=⟨_,rfl⟩
   rw [hfk] at hat hnz hstep
   obtain ⟨q0,q1,q2,q3,q4,q5,q6,q7,q8⟩:=hat
   obtain ⟨W5,hW5⟩:∃ V,wr.alloc (.cells #[.string f.nm,.int .i64 f.kind,.int .i64 f.ty,.int .i64 f.d.op,.int .i64 f.d.k,.int .i64 f.d.n,.string f.d.s,.string f.d.nm,.slice f.A f.n f.c] 43)=V:=⟨_,rfl⟩
   obtain ⟨B9,hB9⟩:∃ B,wr.heap.size=B:=⟨_,rfl⟩
   have hb5:=b_new wr (.cells #[.string f.nm,.int .i64 f.kind,.int .i64 f.ty,.int .i64 f.d.op,.int .i64 f.d.k,.int .i64 f.d.n,.string f.d.s,.string f.d.nm,.slice f.A f.n f.c] 43)
   have hcell:=head_cells wr f
   unfold rightHead at hcell
   rw [hW5,hB9] at hcell
   rw [hW5] at hb5
   obtain ⟨x0,_⟩:=hcell W5 (Below.refl _ _)
   obtain ⟨w7,hput,hs7,hg7⟩:=put_bool (hsm.below hb5) f.nm hnz (.bool false) (by unfold maxLen; omega)
   have hbw:=b_trans hb hb5
   have HN:=Lib.hid (And.intro (hs7.to hstep) (b_grown hbw hg7 hbw.size hwm))
   have HW5:=Lib.hid hW5
   have HB9:=Lib.hid hB9
   clear hsm hb hnz hstep hfk hb5 hcell hs7 hg7 hbw hW5 hB9
   go_upto_region 5 with fail
   rw [HW5.out,HB9.out]
   go_wp2_with fail
   go_roundw
   case rel => exact ⟨k + 1,by go_num,by omega,HN.out.1,HN.out.2⟩
   case measure => simp [intOf]; omega
  ·have ek:k=fs.length:=by omega
   have HN:=Lib.hid (show SM wr m fs.length (plM fs [])/\Below w.heap.size w wr from ⟨by rw [ek] at hsm; exact hsm.to fun s => unM_last fs s,hb⟩)
   clear hsm hb ek
   go_wp2_with fail
   go_ret
   exact ⟨m,rfl,hwm,HN.out.1,HN.out.2⟩
set_option maxRecDepth 100000 in
set_option maxHeartbeats 4000000 in
theorem place_any (fs:List GenL.Fd) (met L:List ByteArray) (A:Option Addr) (c m n:Nat) (w:World) (hL:L.length<=1048576) (hr:TRow w A L) (hz:∀ s ∈ L,s.size<=maxLen) (hs:SM w m n (plM fs met)) (hn:n + L.length < maxLen) (hAm:∀ a,A=some a->0 < L.length->a.block ≠ m) :
  Calls Tryz.prog 126 #[.slice A L.length c,.map (some m)] w fun r w' => r=.returned (.int .i64 (scan (nameE fs met L) L.length))/\(scan (nameE fs met L) L.length=0->SM w' m (n + L.length) (plM fs (met ++ L)))/\w.grownBy w' (some m):=by
 obtain ⟨R,hR⟩:∃ R,scan (nameE fs met L) L.length=R:=⟨_,rfl⟩
 rw [hR]
 have hstop:∀ k,k < L.length->(∀ j,j < k->nameE fs met L j=0)->nameE fs met L k ≠ 0->R=nameE fs met L k:=fun k hk h h0 => by rw [← hR]; exact scan_stop L.length k hk h h0
 have hall:(∀ j,j < L.length->nameE fs met L j=0)->R=0:=fun h => by rw [← hR]; exact scan_zero L.length h
 have HStop:=Lib.hid hstop
 have HAll:=Lib.hid hall
 have HR:=Lib.hid hr
 have HZ:=Lib.hid hz
 have HS:=Lib.hid hs
 have HAm:=Lib.hid hAm
 have hmw:=hs.lt
 have hg0:w.grownBy w (some m):=⟨rfl,rfl,rfl,Nat.le_refl _,fun _ _ _ => rfl⟩
 have HG0:=Lib.hid hg0
 unfold maxLen at hn
 clear hstop hall hr hz hs hAm hR hg0
 go_enter Tryz.func126,Tryz.ntmps126
 go_wp2_with fail
 go_loopw [6,7,8,11] (fun _ _ _ ii wr => ∃ k:Nat,ii=.int .i64 k/\k<=L.length/\(∀ j,j < k->nameE fs met L j=0)/\SM wr m (n + k) (plM fs (met ++ L.take k))/\w.grownBy wr (some m)) (fun _ _ _ ii _ => L.length - (intOf ii).toNat)
 case atStart => exact ⟨0,rfl,Nat.zero_le _,fun j hj => absurd hj (by omega),by rw [List.take_zero,List.append_nil]; exact HS.out,HG0.out⟩
 case round =>
  obtain ⟨k,rfl,hk,hzr,hsm,hg⟩:=hrel
  by_cases hlt:k < L.length
  ·obtain ⟨a,rfl,hc0⟩:=HR.out k hlt
   have hc:=(World.cell?_of_block (a:=a.add k) (hg.block _ (cell_lt' hc0) (fun e => by injection e with e; rw [block_of_add] at e; exact HAm.out a rfl (by omega) e))).trans hc0
   have hts:=HZ.out L[k] (List.getElem_mem hlt)
   have hlk:=look_bool hsm L[k] hts
   have hne:nameE fs met L k=(if atF fs L[k] < fs.length then (if hasB (met ++ L.take k) L[k]=true then 6 else 0) else 5):=by unfold nameE; rw [dif_pos hlt]
   have hstop:=HStop.out k hlt hzr
   have hnext:nameE fs met L k=0->∀ j,j < k + 1->nameE fs met L j=0:=fun e j hj => by
    by_cases h:j=k
    ·subst h; exact e
    ·exact hzr j (by omega)
   have htk:met ++ L.take (k + 1)=met ++ L.take k ++ [L[k]]:=by rw [List.take_succ_eq_append_getElem hlt,List.append_assoc]
   have hpm:∀ h:atF fs L[k] < fs.length,∀ s,(if s=L[k] then some (.bool true) else plM fs (met ++ L.take k) s)=plM fs (met ++ L.take (k + 1)) s:=fun h s => by
    rw [htk]; exact plM_step fs (met ++ L.take k) L[k] h s
   have hput:=put_bool hsm L[k] hts (.bool true) (by unfold maxLen; omega)
   unfold plM at hlk
   generalize L[k]=t at hc hlk hne hpm hput
   have HNe:=Lib.hid hne
   have HStop2:=Lib.hid hstop
   have HNx:=Lib.hid hnext
   have HPm:=Lib.hid hpm
   have HG:=Lib.hid hg
   have HPut:=Lib.hid hput
   clear hc0 hts hne hstop hnext htk hpm hput hsm hg hzr
   by_cases hp:atF fs t < fs.length
   ·rw [if_pos hp] at hlk HNe
    cases hb:hasB (met ++ L.take k) t with
    | true =>
     rw [hb] at hlk HNe
     have hlk2:(Instr.lookup 145 (.map (some m)) (.string t) true).run Tryz.prog wr=.ok (.tuple #[.bool true,.bool true]) wr:=hlk
     have h6:nameE fs met L k=6:=by rw [HNe.out,if_pos rfl]
     obtain rfl:R=6:=(HStop2.out (by rw [h6]; decide)).trans h6
     clear hlk h6 hp hb
     go_wp2_with fail
     go_ret
     first | exact ⟨rfl,fun h => absurd h (by decide),HG.out⟩ | exact ⟨rfl,HG.out⟩
    | false =>
     rw [hb] at hlk HNe
     have hlk2:(Instr.lookup 145 (.map (some m)) (.string t) true).run Tryz.prog wr=.ok (.tuple #[.bool false,.bool true]) wr:=hlk
     have h6:nameE fs met L k=0:=by rw [HNe.out,if_neg (by decide)]
     obtain ⟨w7,hput7,hs7,hg7⟩:=HPut.out
     have HN:=Lib.hid (And.intro (HNx.out h6) (And.intro (hs7.to (HPm.out hp)) (g_trans HG.out hg7)))
     clear hlk h6 hp hb hs7 hg7
     go_wp2_with fail
     go_roundw
     case rel => exact ⟨k + 1,by go_num,by omega,HN.out.1,HN.out.2.1,HN.out.2.2⟩
     case measure => simp [intOf]; omega
   ·rw [if_neg hp] at hlk HNe
    have hlk2:(Instr.lookup 145 (.map (some m)) (.string t) true).run Tryz.prog wr=.ok (.tuple #[.bool false,.bool false]) wr:=hlk
    obtain rfl:R=5:=(HStop2.out (by rw [HNe.out]; decide)).trans HNe.out
    clear hlk hp
    go_wp2_with fail
    go_ret
    first | exact ⟨rfl,fun h => absurd h (by decide),HG.out⟩ | exact ⟨rfl,HG.out⟩
  ·have ek:k=L.length:=by omega
   obtain rfl:=HAll.out fun j hj => hzr j (by omega)
   have HN:=Lib.hid (show SM wr m (n + L.length) (plM fs (met ++ L))/\w.grownBy wr (some m) from ⟨by rw [ek,List.take_length] at hsm; exact hsm,hg⟩)
   clear hsm hg hzr ek
   go_wp2_with fail
   go_ret
   first | exact ⟨rfl,fun _ => HN.out.1,HN.out.2⟩ | exact ⟨rfl,HN.out.1,HN.out.2⟩
set_option maxRecDepth 100000 in
set_option maxHeartbeats 8000000 in
theorem check_any (ps:List PE) (PA:Option Addr) (pc:Nat) (fs:List GenL.Fd) (FA:Option Addr) (fc:Nat) (w:World) (hm:fs.length<=1048576) (hf:Flds w FA fs) (hz:∀ (k:Nat) (h:k < fs.length),fs[k].nm.size<=maxLen) (hp:Pgs w PA ps) (ho:PgsOk w ps) (hl:ps.length<=maxLen) (hlp:∀ e ∈ ps,e.fs.length<=1048576) (hT:Tab w) (hcap:ps.length<=pc/\pc<=maxLen) :
  Calls Tryz.prog 97 #[.slice PA ps.length pc,.slice FA fs.length fc] w fun r w' => r=.returned (.int .i64 (checkP fs ps))/\Below w.heap.size w w':=by
 obtain ⟨R,hR⟩:∃ R,checkP fs ps=R:=⟨_,rfl⟩
 rw [hR]
 unfold checkP at hR
 by_cases h0:ps.length=0 ∨ 6 < ps.length
 ·rw [if_pos h0] at hR
  subst hR
  by_cases h1:ps.length=0
  ·rw [h1]
   clear hf hz hp ho hl hlp hT hcap h0 h1
   go_enter Tryz.func97,Tryz.ntmps97
   go_wp2_with fail
   go_ret
   exact ⟨rfl,Below.refl _ _⟩
  ·have t1:((ps.length:Int) == 0)=false:=beq_eq_false_iff_ne.2 (by omega)
   have t2:(6:Int) < (ps.length:Int):=by omega
   clear hf hz hp ho hl hlp hT hcap h0 h1
   go_enter Tryz.func97,Tryz.ntmps97
   go_wp2_with fail
   go_ret
   exact ⟨rfl,Below.refl _ _⟩
 ·rw [if_neg h0] at hR
  have hn6:1<=ps.length/\ps.length<=6:=by omega
  have t1:((ps.length:Int) == 0)=false:=beq_eq_false_iff_ne.2 (by omega)
  have t2:¬ (6:Int) < (ps.length:Int):=by omega
  have hstop:∀ k,k < ps.length->(∀ j,j < k->pageE fs ps j=0)->pageE fs ps k ≠ 0->R=pageE fs ps k:=fun k hk h h0 => by rw [← hR]; exact scan_stop ps.length k hk h h0
  have hall:(∀ j,j < ps.length->pageE fs ps j=0)->R=0:=fun h => by rw [← hR]; exact scan_zero ps.length h
  have hun:=unplaced_any fs FA fc w hm hf hz
  have HUn:=Lib.hid hun
  have HStop:=Lib.hid hstop
  have HAll:=Lib.hid hall
  have HF:=Lib.hid hf
  have HP:=Lib.hid hp
  have HO:=Lib.hid ho
  have HLp:=Lib.hid hlp
  have HT:=Lib.hid hT
  clear hun hstop hall hf hz hp ho hlp hT hR h0
  go_enter Tryz.func97,Tryz.ntmps97
  go_wp2_with fail
  refine HUn.out.mono ?_; rintro r w1 ⟨m,rfl,hwm,hs1,hb1⟩
  have HS1:=Lib.hid hs1
  have HB1:=Lib.hid hb1
  clear hs1 hb1
  go_wp2_with fail
  go_loopw [6,7,8,9,10,11,12,25] (fun _ _ _ _ _ _ _ ii wr => ∃ k nn:Nat,ii=.int .i64 k/\k<=ps.length/\nn<=fs.length + k * 1048576/\(∀ j,j < k->pageE fs ps j=0)/\SM wr m nn (plM fs (metP ps k))/\Below w.heap.size w wr) (fun _ _ _ _ _ _ _ ii _ => ps.length - (intOf ii).toNat)
  case atStart => exact ⟨0,fs.length,rfl,Nat.zero_le _,by omega,fun j hj => absurd hj (by omega),HS1.out,HB1.out⟩
  case round =>
   obtain ⟨k,nn,rfl,hk,hnn,hzr,hsm,hb⟩:=hrel
   by_cases hlt:k < ps.length
   ·obtain ⟨ad,rfl,hat⟩:=HP.out.below hb k hlt
    have hoe:=(HO.out ps[k] (List.getElem_mem hlt)).below hb
    have hle:=HLp.out ps[k] (List.getElem_mem hlt)
    have hpe:pageE fs ps k=(if LexB.nameE ps[k].nm.data.toList=0 then (if pAt ps ps[k].nm < k then 6 else if scan (nameE fs (metP ps k) ps[k].fs) ps[k].fs.length=0 then (if bareB ps[k].x.d ps[k].m=true then 0 else fitsT (fts fs) ps[k].x 2) else scan (nameE fs (metP ps k) ps[k].fs) ps[k].fs.length) else LexB.nameE ps[k].nm.data.toList):=by unfold pageE; rw [dif_pos hlt]
    have hstop:=HStop.out k hlt hzr
    have hnext:pageE fs ps k=0->∀ j,j < k + 1->pageE fs ps j=0:=fun e j hj => by
     by_cases h:j=k
     ·subst h; exact e
     ·exact hzr j (by omega)
    have hms:=metP_succ ps k hlt
    obtain ⟨e,hek⟩:∃ e,ps[k]=e:=⟨_,rfl⟩
    rw [hek] at hat hoe hle hpe hms
    obtain ⟨q0,q1,q2,q3,q4,q5,q6,q7⟩:=hat
    obtain ⟨W5,hW5⟩:∃ V,wr.alloc (.cells #[.string e.nm,.slice e.F e.fs.length e.fc,.int .i64 e.x.d.op,.int .i64 e.x.d.k,.int .i64 e.x.d.n,.string e.x.d.s,.string e.x.d.nm,.slice e.B e.m e.c] 85)=V:=⟨_,rfl⟩
    obtain ⟨B9,hB9⟩:∃ B,wr.heap.size=B:=⟨_,rfl⟩
    have hb5:=b_new wr (pgBox e)
    have hcell:=pg_cells wr e
    unfold pgBox at hb5 hcell
    rw [hW5,hB9] at hcell
    rw [hW5] at hb5
    have hnm:=LexB.name_any e.nm W5 hoe.nm
    have hfi:∀ V,Below W5.heap.size W5 V->Calls Tryz.prog 125 #[.slice (some ad) k pc,.string e.nm] V fun r w' => r=.returned (.tuple #[.int .i64 (if pAt (ps.take k) e.nm < k then (pAt (ps.take k) e.nm:Int) else 0),.int .i64 (if pAt ps e.nm < k then 0 else 5)])/\Below V.heap.size V w':=fun V hV => by
     have hlk:(ps.take k).length=k:=by rw [List.length_take]; omega
     have:=PgA.find_any e.nm (ps.take k) (some ad) pc V (by omega) ((HP.out.below (b_trans hb (b_trans hb5 hV))).take k)
     rw [hlk] at this
     unfold PgA.firstE at this
     have e9:(pAt (ps.take k) e.nm < k)=(pAt ps e.nm < k):=propext (fi_take (by omega))
     simp only [e9] at this ⊢
     exact this
    generalize (if pAt (ps.take k) e.nm < k then (pAt (ps.take k) e.nm:Int) else 0)=zz at hfi
    have hne2:∀ V,Below W5.heap.size W5 V->Calls Tryz.prog 127 _ V _:=fun V hV => never_any e V
    have hft:∀ V,Below W5.heap.size W5 V->Calls Tryz.prog 128 #[.agg #[.int .i64 e.x.d.op,.int .i64 e.x.d.k,.int .i64 e.x.d.n,.string e.x.d.s,.string e.x.d.nm,.slice e.B e.m e.c],.slice FA fs.length fc,.int .i64 2] V fun r w' => r=.returned (.int .i64 (fitsT (fts fs) e.x 2))/\Below V.heap.size V w':=fun V hV => fits_any e.x fs FA fc 2 e.x.d e.B e.m e.c V (by omega) (hoe.skip.below (b_trans hb5 hV)) (HF.out.below (b_trans hb (b_trans hb5 hV))) (HT.out.below (b_trans hb (b_trans hb5 hV)))
    have hpl:∀ V,Below W5.heap.size W5 V->Calls Tryz.prog 126 #[.slice e.F e.fs.length e.fc,.map (some m)] V fun r w' => r=.returned (.int .i64 (scan (nameE fs (metP ps k) e.fs) e.fs.length))/\(scan (nameE fs (metP ps k) e.fs) e.fs.length=0->SM w' m (nn + e.fs.length) (plM fs (metP ps k ++ e.fs)))/\V.grownBy w' (some m):=fun V hV => by
     refine place_any fs (metP ps k) e.fs e.F e.fc m nn V hle (hoe.row.below (b_trans hb5 hV)) hoe.txt (hsm.below (b_trans hb5 hV)) (by have:k * 1048576<=6 * 1048576:=Nat.mul_le_mul_right _ (by omega); unfold maxLen; omega) (fun a ha h0 he => ?_)
     obtain ⟨a2,ea,hc2⟩:=(HO.out ps[k] (List.getElem_mem hlt)).row 0 (by rw [hek]; exact h0)
     rw [hek,ha] at ea
     injection ea with ea
     subst ea
     have:=cell_lt' hc2
     rw [block_of_add] at this
     omega
    have hblk:∀ V,Below W5.heap.size W5 V->V.heap[B9]?=some (.cells #[.string e.nm,.slice e.F e.fs.length e.fc,.int .i64 e.x.d.op,.int .i64 e.x.d.k,.int .i64 e.x.d.n,.string e.x.d.s,.string e.x.d.nm,.slice e.B e.m e.c] 85 (0,0)):=fun V hV => by
     have h1:=World.alloc_heap_new wr (.cells #[.string e.nm,.slice e.F e.fs.length e.fc,.int .i64 e.x.d.op,.int .i64 e.x.d.k,.int .i64 e.x.d.n,.string e.x.d.s,.string e.x.d.nm,.slice e.B e.m e.c] 85)
     rw [hW5,hB9] at h1
     exact (hV.block _ (Array.getElem?_eq_some_iff.1 h1).1).trans h1
    have hcells:∀ V:World,V.heap[B9]?=some (.cells #[.string e.nm,.slice e.F e.fs.length e.fc,.int .i64 e.x.d.op,.int .i64 e.x.d.k,.int .i64 e.x.d.n,.string e.x.d.s,.string e.x.d.nm,.slice e.B e.m e.c] 85 (0,0))->V.cell? ⟨B9,0,none⟩=some (.string e.nm)/\V.cell? ⟨B9,1,none⟩=some (.slice e.F e.fs.length e.fc)/\V.cell? ⟨B9,2,none⟩=some (.int .i64 e.x.d.op)/\V.cell? ⟨B9,3,none⟩=some (.int .i64 e.x.d.k)/\V.cell? ⟨B9,4,none⟩=some (.int .i64 e.x.d.n)/\V.cell? ⟨B9,5,none⟩=some (.string e.x.d.s)/\V.cell? ⟨B9,6,none⟩=some (.string e.x.d.nm)/\V.cell? ⟨B9,7,none⟩=some (.slice e.B e.m e.c):=fun V h => ⟨by simp [World.cell?,h],by simp [World.cell?,h],by simp [World.cell?,h],by simp [World.cell?,h],by simp [World.cell?,h],by simp [World.cell?,h],by simp [World.cell?,h],by simp [World.cell?,h]⟩
    have hBm:m < B9:=by rw [← hB9]; exact hsm.lt
    have hbw5:=b_trans hb hb5
    have hskip:∀ V,Below w.heap.size w V->Calls Tryz.prog 128 #[.agg #[.int .i64 e.x.d.op,.int .i64 e.x.d.k,.int .i64 e.x.d.n,.string e.x.d.s,.string e.x.d.nm,.slice e.B e.m e.c],.slice FA fs.length fc,.int .i64 2] V fun r w' => r=.returned (.int .i64 (fitsT (fts fs) e.x 2))/\Below V.heap.size V w':=fun V hV => fits_any e.x fs FA fc 2 e.x.d e.B e.m e.c V (by omega) (by have:=(HO.out ps[k] (List.getElem_mem hlt)).skip.below hV; rw [hek] at this; exact this) (HF.out.below hV) (HT.out.below hV)
    clear hft hne2
    obtain ⟨x0,x1,x2,x3,x4,x5,x6,x7⟩:=hcells W5 (hblk W5 (Below.refl _ _))
    obtain ⟨dup,hdup⟩:∃ d,d=(pAt ps e.nm < k):=⟨_,rfl⟩
    have HNm:=Lib.hid hnm
    have HFi:=Lib.hid hfi
    have HPl:=Lib.hid hpl
    have HSk:=Lib.hid hskip
    have HBlk:=Lib.hid hblk
    have HCells:=Lib.hid hcells
    have HBw5:=Lib.hid hbw5
    have HPe:=Lib.hid hpe
    have HStop2:=Lib.hid hstop
    have HNx:=Lib.hid hnext
    have HMs:=Lib.hid hms
    have HW5:=Lib.hid hW5
    have HB9:=Lib.hid hB9
    have HLe:=Lib.hid hle
    have hki:(k:Int)<=(pc:Int):=by omega
    have hk0:(0:Int)<=(k:Int):=by omega
    clear hnm hfi hpl hskip hblk hcells hbw5 hpe hstop hnext hms hW5 hB9 hoe hb hb5 hzr hsm hek hcell hle hdup
    generalize LexB.nameE e.nm.data.toList=ne at HNm HPe
    generalize scan (nameE fs (metP ps k) e.fs) e.fs.length=sc at HPl HPe
    generalize fitsT (fts fs) e.x 2=ft at HSk HPe
    by_cases h0:ne=0
    ·subst h0
     go_upto_region 7 with fail
     rw [HW5.out,HB9.out]
     go_wp2_with fail
     refine HNm.out.mono ?_; rintro r w6 ⟨rfl,rfl⟩
     have hbl:=Below.refl W5.heap.size W5
     have hnmc:∀ V,Below W5.heap.size W5 V->V.cell? ⟨B9,0,none⟩=some (.string e.nm):=fun V hV => (HCells.out V (HBlk.out V hV)).1
     have HNmc:=Lib.hid hnmc
     clear hnmc
     by_cases hd:pAt ps e.nm < k
     ·have h6:pageE fs ps k=6:=by first | rw [HPe.out,if_pos rfl,if_pos hd] | rw [HPe.out,if_pos trivial,if_pos hd]
      obtain rfl:=(HStop2.out (by rw [h6]; decide)).trans h6
      simp only [if_pos hd] at HFi
      clear h6 hd HSk HPl HPe HNx HMs HStop2 HCells HBlk
      go_upto_region 10 with fail
      go_region_held3 (fun V => V.cell? ⟨B9,0,none⟩=some (.string e.nm)) (first | (with_reducible exact HNmc.out _ hbl) | (with_reducible exact HNmc.out _ (b_drew hbl))) ((go_at_call 125; (with_reducible refine (HFi.out _ ?_).mono ?_); (first | exact hbl | exact b_drew hbl); rintro r w7 ⟨rfl,hb7⟩; have hbl:Below W5.heap.size W5 w7:=(by first | exact hbl.trans (hb7.mono hbl.size) | exact (b_drew hbl).trans (hb7.mono hbl.size)); clear hb7))
      all_goals
       have HB7:=Lib.hid (b_trans HBw5.out hbl)
       go_wp2_with fail
       go_ret
       exact ⟨rfl,HB7.out⟩
     ·have hpe2:pageE fs ps k=(if sc=0 then (if bareB e.x.d e.m=true then 0 else ft) else sc):=by first | rw [HPe.out,if_pos rfl,if_neg hd] | rw [HPe.out,if_pos trivial,if_neg hd]
      simp only [if_neg hd] at HFi
      have HPe2:=Lib.hid hpe2
      clear hpe2 hd HPe
      go_upto_region 10 with fail
      go_region_held3 (fun V => V.cell? ⟨B9,0,none⟩=some (.string e.nm)) (first | (with_reducible exact HNmc.out _ hbl) | (with_reducible exact HNmc.out _ (b_drew hbl))) ((go_at_call 125; (with_reducible refine (HFi.out _ ?_).mono ?_); (first | exact hbl | exact b_drew hbl); rintro r w7 ⟨rfl,hb7⟩; have hbl:Below W5.heap.size W5 w7:=(by first | exact hbl.trans (hb7.mono hbl.size) | exact (b_drew hbl).trans (hb7.mono hbl.size)); clear hb7))
      all_goals
       have HB7:=Lib.hid (b_trans HBw5.out hbl)
       obtain ⟨x0,x1,x2,x3,x4,x5,x6,x7⟩:=HCells.out w7 (HBlk.out w7 hbl)
       have HPl7:=Lib.hid (HPl.out w7 hbl)
       have hblk7:=HBlk.out w7 hbl
       have HBlk7:=Lib.hid hblk7
       clear hblk7 hbl
       go_wp2_with fail
       refine HPl7.out.mono ?_; rintro r w8 ⟨rfl,hs8,hg8⟩
       have hbw8:Below w.heap.size w w8:=b_grown HB7.out hg8 HB7.out.size hwm
       have hblk8:=(hg8.block B9 (Array.getElem?_eq_some_iff.1 HBlk7.out).1 (fun e => by injection e with e; omega)).trans HBlk7.out
       have HS8:=Lib.hid hs8
       have HBw8:=Lib.hid hbw8
       have HBlk8:=Lib.hid hblk8
       clear hs8 hg8 hbw8 hblk8 x0 x1 x2 x3 x4 x5 x6 x7 HPl7
       by_cases h1:sc=0
       ·subst h1
        have hs8:SM w8 m (nn + e.fs.length) (plM fs (metP ps (k + 1))):=by
         rw [HMs.out]
         first | exact HS8.out rfl | exact HS8.out trivial | exact HS8.out
        have hnn2:nn + e.fs.length<=fs.length + (k + 1) * 1048576:=by have:=HLe.out; rw [Nat.add_mul,Nat.one_mul]; omega
        have hpe3:pageE fs ps k=(if bareB e.x.d e.m=true then 0 else ft):=by first | rw [HPe2.out,if_pos rfl] | rw [HPe2.out,if_pos trivial]
        obtain ⟨x0,x1,x2,x3,x4,x5,x6,x7⟩:=HCells.out w8 HBlk8.out
        have hnv:=never_any e w8
        generalize bareB e.x.d e.m=bb at hpe3 hnv
        have HNv:=Lib.hid hnv
        have HPe3:=Lib.hid hpe3
        have HS9:=Lib.hid hs8
        have HNn:=Lib.hid hnn2
        clear hs8 hnn2 hpe3 hnv HS8 HPe2
        go_wp2_with fail
        refine HNv.out.mono ?_; rintro r w9 ⟨rfl,hb9⟩
        have hs9:=HS9.out.below hb9
        have hbw9:=b_trans HBw8.out hb9
        have hblk9:=(hb9.block B9 (Array.getElem?_eq_some_iff.1 HBlk8.out).1).trans HBlk8.out
        obtain ⟨x0,x1,x2,x3,x4,x5,x6,x7⟩:=HCells.out w9 hblk9
        have HS10:=Lib.hid hs9
        have HBw9:=Lib.hid hbw9
        clear hs9 hbw9 hblk9 hb9
        cases bb with
        | true =>
         have h6:pageE fs ps k=0:=by first | rw [HPe3.out,if_pos rfl] | rw [HPe3.out,if_pos trivial]
         have HN:=Lib.hid (HNx.out h6)
         clear h6
         go_wp2_with fail
         go_roundw
         case rel => exact ⟨k + 1,nn + e.fs.length,by go_num,by omega,HNn.out,HN.out,HS10.out,HBw9.out⟩
         case measure => simp [intOf]; omega
        | false =>
         have h6:pageE fs ps k=ft:=by rw [HPe3.out,if_neg (by simp)]
         have HSk9:=Lib.hid (HSk.out w9 HBw9.out)
         go_wp2_with fail
         refine HSk9.out.mono ?_; rintro r w10 ⟨rfl,hb10⟩
         have HB10:=Lib.hid (b_trans HBw9.out hb10)
         have HS11:=Lib.hid (HS10.out.below hb10)
         clear hb10 x0 x1 x2 x3 x4 x5 x6 x7
         by_cases h1:ft=0
         ·subst h1
          have HN:=Lib.hid (HNx.out h6)
          clear h6
          go_wp2_with fail
          go_roundw
          case rel => exact ⟨k + 1,nn + e.fs.length,by go_num,by omega,HNn.out,HN.out,HS11.out,HB10.out⟩
          case measure => simp [intOf]; omega
         ·obtain rfl:=(HStop2.out (by rw [h6]; exact h1)).trans h6
          have t3:(R != 0)=true:=bne_iff_ne.2 h1
          clear h6 h1
          go_wp2_with fail
          go_ret
          exact ⟨rfl,HB10.out⟩
       ·have h6:pageE fs ps k=sc:=by rw [HPe2.out,if_neg h1]
        obtain rfl:=(HStop2.out (by rw [h6]; exact h1)).trans h6
        have t3:(R != 0)=true:=bne_iff_ne.2 h1
        clear h6 h1
        go_wp2_with fail
        go_ret
        exact ⟨rfl,HBw8.out⟩
    ·have h6:pageE fs ps k=ne:=by rw [HPe.out,if_neg h0]
     obtain rfl:=(HStop2.out (by rw [h6]; exact h0)).trans h6
     have t3:(R != 0)=true:=bne_iff_ne.2 h0
     clear h6 h0
     go_upto_region 7 with fail
     rw [HW5.out,HB9.out]
     go_wp2_with fail
     refine HNm.out.mono ?_; rintro r w6 ⟨rfl,rfl⟩
     go_wp2_with fail
     go_ret
     exact ⟨rfl,HBw5.out⟩
   ·obtain rfl:=HAll.out fun j hj => hzr j (by omega)
    have HB:=Lib.hid hb
    clear hzr hsm hb
    go_wp2_with fail
    go_ret
    exact ⟨rfl,HB.out⟩
end PgB
namespace TxT
open Go.RowKit
open ValM LexM NumM ExM NmM ShowM PrM Ty Kit ExL ExP ExN ExC RawV Within RawL GenL FrmM FldP FldR FldC TyM PgM TxM TxR
set_option linter.unusedVariables false
def flE (e:FE):Fl:=⟨e.nm.data.toList,e.kind,e.ty,e.x⟩
theorem bare_no {x:Ex} {A:Option Addr} {m:Nat} {w:World} (hi:Is w x x.d A m) (h:bareB x.d m=true):x=noX:=by
 cases x with
 | mk d l =>
  have h1:=is_mk.1 hi
  have hm:m=l.length:=h1.2.1
  unfold bareB at h
  simp only [Bool.and_eq_true,decide_eq_true_eq] at h
  obtain ⟨⟨⟨⟨⟨a,b⟩,c⟩,e⟩,f⟩,g⟩:=h
  have hd:(Ex.mk d l).d=d:=rfl
  rw [hd] at a b c e f
  have hl:l=[]:=List.eq_nil_of_length_eq_zero (by omega)
  subst hl
  obtain ⟨o,k,n,s,nm⟩:=d
  simp only at a b c e f
  subst a b c e f
  rfl
theorem fl_ok {e:FE} {w:World} (hi:Is w e.x e.x.d e.B e.m) (h:rightE e.fd e.x=0):FlOk (flE e)/\(1 < e.kind->e.x.checkE=0):=by
 unfold rightE at h
 by_cases h1:LexB.nameE e.fd.nm.data.toList ≠ 0
 ·rw [if_pos h1] at h; exact absurd h h1
 ·rw [if_neg h1] at h
  have hn:LexB.nameE e.nm.data.toList=0:=Decidable.not_not.1 h1
  by_cases h2:isT e.fd.kind=true/\isT e.fd.ty=true
  ·rw [if_pos h2] at h
   have hk:1<=e.kind/\e.kind<=3:=isT_iff.1 h2.1
   have ht:1<=e.ty/\e.ty<=3:=isT_iff.1 h2.2
   have hnm:nmB e.nm.data.toList=true:=by rw [nmB_iff,decide_eq_true_eq]; exact hn
   by_cases h3:e.fd.kind=1
   ·rw [if_pos h3] at h
    by_cases h4:bareB e.fd.d e.fd.n=true
    ·exact ⟨⟨hnm,hk,ht,fun _ => bare_no hi h4⟩,fun hh => by have:e.kind=1:=h3; omega⟩
    ·rw [if_neg h4] at h; exact absurd h (by decide)
   ·rw [if_neg h3] at h
    exact ⟨⟨hnm,hk,ht,fun hh => absurd hh h3⟩,fun _ => h⟩
  ·rw [if_neg h2] at h; exact absurd h (by decide)
theorem scan_all {P:Nat->Int}:∀ (n:Nat),scan P n=0->∀ j,j < n->P j=0
 | 0,_,j,hj => by omega
 | n + 1,h,j,hj => by
  unfold scan at h
  by_cases h0:scan P n=0
  ·rw [if_pos h0] at h
   by_cases e:j=n
   ·subst e; exact h
   ·exact scan_all n h0 j (by omega)
  ·rw [if_neg h0] at h; exact absurd h h0
end TxT
namespace TxT
open Go.RowKit
open ValM LexM NumM ExM NmM ShowM PrM Ty Kit ExL ExP ExN ExC RawV Within RawL GenL FrmM FldP FldR FldC TyM PgM TxM TxR
set_option linter.unusedVariables false
def FIs (w:World) (es:List FE):Prop:=∀ (i:Nat) (h:i < es.length),Is w es[i].x es[i].x.d es[i].B es[i].m
def PIs' (w:World) (ps:List PE):Prop:=∀ (i:Nat) (h:i < ps.length),Is w ps[i].x ps[i].x.d ps[i].B ps[i].m
def Srcs (X:Nat->Ex) (es:List FE):Prop:=∀ (i:Nat) (h:i < es.length),X i=es[i].x
theorem own_at {es:List FE} {X:Nat->Ex} (hX:Srcs X es) (k:Nat) (hk:k < es.length):ownE (es.map FE.fd) X k=if rightE es[k].fd es[k].x=0 then (if atF (es.map FE.fd) es[k].nm < k then 6 else 0) else rightE es[k].fd es[k].x:=by
 unfold ownE
 rw [dif_pos (by rw [List.length_map]; exact hk)]
 have e1:(es.map FE.fd)[k]'(by rw [List.length_map]; exact hk)=es[k].fd:=by rw [List.getElem_map]
 rw [e1,hX k hk]
 rfl
theorem typ_at {es:List FE} {X:Nat->Ex} (hX:Srcs X es) (k:Nat) (hk:k < es.length):typE (es.map FE.fd) X k=srcE (es.map FE.fd) es[k].fd es[k].x:=by
 unfold typE
 rw [dif_pos (by rw [List.length_map]; exact hk)]
 have e1:(es.map FE.fd)[k]'(by rw [List.length_map]; exact hk)=es[k].fd:=by rw [List.getElem_map]
 rw [e1,hX k hk]
theorem own_zero {es:List FE} {X:Nat->Ex} (hX:Srcs X es) (h:checkF (es.map FE.fd) X=0):∀ (k:Nat) (hk:k < es.length),rightE es[k].fd es[k].x=0/\¬ atF (es.map FE.fd) es[k].nm < k:=fun k hk => by
 unfold checkF at h
 by_cases h1:14 < (es.map FE.fd).length
 ·rw [if_pos h1] at h; exact absurd h (by decide)
 ·rw [if_neg h1] at h
  by_cases h2:scan (ownE (es.map FE.fd) X) (es.map FE.fd).length=0
  ·have h3:=scan_all _ h2 k (by rw [List.length_map]; exact hk)
   rw [own_at hX k hk] at h3
   by_cases h4:rightE es[k].fd es[k].x=0
   ·rw [if_pos h4] at h3
    refine ⟨h4,fun h5 => ?_⟩
    rw [if_pos h5] at h3; exact absurd h3 (by decide)
   ·rw [if_neg h4] at h3; exact absurd h3 h4
  ·rw [if_neg h2] at h; exact absurd h h2
theorem nm_first:∀ (fs:List GenL.Fd) (s:ByteArray) (j:Nat) (hj:j < fs.length),fs[j].nm=s->atF fs s<=j
 | f :: l,s,0,_,h => by unfold atF; rw [if_pos (show f.nm=s from h)]; exact Nat.le_refl _
 | f :: l,s,j + 1,hj,h => by
  unfold atF
  split
  ·exact Nat.zero_le _
  ·exact Nat.succ_le_succ (nm_first l s j (by simpa using hj) h)
end TxT
namespace RawN
open Go.RowKit
open ValM LexM NumM ExM Kit ExL RawV Within RawL
set_option linter.unusedVariables false
structure Rw where
 k:Int
 x:Int
 y:Int
 t:ByteArray
def Rw.ok (r:Rw):Prop:=(Lit.int .i64 r.k).wf=true/\(Lit.int .i64 r.x).wf=true/\(Lit.int .i64 r.y).wf=true/\r.t.size<=maxLen
def RAt (w:World) (p:Addr) (r:Rw):Prop:=w.cell? p=some (.int .i64 r.k)/\w.cell? ⟨p.block,p.off + 1,none⟩=some (.int .i64 r.x)/\w.cell? ⟨p.block,p.off + 2,none⟩=some (.int .i64 r.y)/\w.cell? ⟨p.block,p.off + 3,none⟩=some (.string r.t)
def RawsV (w:World) (A:Option Addr) (rs:List Rw) (c:Nat):Prop :=
 rs.length<=c/\c<=maxLen/\∀ (i:Nat) (h:i < rs.length),∃ a:Addr,A=some a/\RAt w (a.add (i * 4)) rs[i]/\rs[i].ok
theorem Raws.val:∀ (n:Nat) {w:World} {A:Option Addr} {c:Nat},Raws w A n c->∃ rs:List Rw,rs.length=n/\RawsV w A rs c
 | n,w,A,c,h => by
  have key:∀ m,m<=n->∃ rs:List Rw,rs.length=m/\∀ (i:Nat) (h:i < rs.length),∃ a:Addr,A=some a/\RAt w (a.add (i * 4)) rs[i]/\rs[i].ok:=by
   intro m
   induction m with
   | zero => exact fun _ => ⟨[],rfl,fun i h => absurd h (by simp)⟩
   | succ m ih =>
    intro hm
    obtain ⟨rs,hl,hrs⟩:=ih (by omega)
    obtain ⟨a,k,x,y,t,e,c0,c1,c2,c3,r⟩:=h.2.2 m (by omega)
    refine ⟨rs ++ [⟨k,x,y,t⟩],by simp [hl],fun i hi => ?_⟩
    by_cases hi':i < rs.length
    ·rw [List.getElem_append_left hi']; exact hrs i hi'
    ·have:i=rs.length:=by simp at hi; omega
     subst this
     simp only [List.getElem_concat_length]
     rw [hl]
     exact ⟨a,e,⟨c0,c1,c2,c3⟩,r⟩
  obtain ⟨rs,hl,hrs⟩:=key n (Nat.le_refl _)
  exact ⟨rs,hl,by rw [hl]; exact h.1,h.2.1,hrs⟩
theorem RawsV.keep {w w':World} {A:Option Addr} {rs:List Rw} {c:Nat} (h:RawsV w A rs c) (hk:∀ (p:Addr) (v0 v1 v2:Value),w.cell? p=some v0->w.cell? ⟨p.block,p.off + 2,none⟩=some v2->w'.heap[p.block]?=w.heap[p.block]?):RawsV w' A rs c :=
 ⟨h.1,h.2.1,fun i hi => by
  obtain ⟨a,e,⟨c0,c1,c2,c3⟩,r⟩:=h.2.2 i hi
  have hb:=hk _ _ (.bool true) _ c0 c2
  exact ⟨a,e,⟨(World.cell?_of_block hb).trans c0,(World.cell?_of_block (a:=⟨(a.add (i * 4)).block,(a.add (i * 4)).off + 1,none⟩) hb).trans c1,(World.cell?_of_block (a:=⟨(a.add (i * 4)).block,(a.add (i * 4)).off + 2,none⟩) hb).trans c2,(World.cell?_of_block (a:=⟨(a.add (i * 4)).block,(a.add (i * 4)).off + 3,none⟩) hb).trans c3⟩,r⟩⟩
theorem RawsV.below {w w':World} {A:Option Addr} {rs:List Rw} {c:Nat} (h:RawsV w A rs c) (hb:Below w.heap.size w w'):RawsV w' A rs c:=h.keep fun p v0 v1 v2 h0 h2 => hb.block _ (cell_lt' h0)
theorem Gr.rawsV {G:Nat} {w w':World} {A A':Option Addr} {rs:List Rw} {c n' c' a:Nat} (h:Gr G w w') (hg:Gen w G A' n' c' a) (r:RawsV w A rs c):RawsV w' A rs c :=
 r.keep fun p v0 v1 v2 h0 h2 => h.block _ (cell_lt' h0) (fun e => by
  cases e
  rw [hg.none2 p.off] at h2; cases h2)
def nextV (rs:List Rw) (a:Nat):Rw :=
 match rs[a % rs.length]? with
 | none => ⟨0,0,0,⟨#[]⟩⟩
 | some r => { r with x:=wrap64 (r.x + (a:Int) / (rs.length:Int)) }
def nextA (rs:List Rw) (a:Nat):Nat:=if rs.length=0 then a else a + 1
def NextV (G:Nat) (A:Option Addr) (rs:List Rw) (c a:Nat) (w:World) (e:Ending) (w':World):Prop :=
 e=.returned (.agg #[.int .i64 (nextV rs a).k,.int .i64 (nextV rs a).x,.int .i64 (nextV rs a).y,.string (nextV rs a).t])/\(nextV rs a).ok/\Gen w' G A rs.length c (nextA rs a)/\Gr G w w'
set_option maxHeartbeats 1000000 in
theorem nextV_none (G c a:Nat) (A:Option Addr) (w:World) (hg:Gen w G A 0 c a) :
  Calls Tryz.prog 38 #[.pointer (some ⟨G,0,none⟩)] w (NextV G A [] c a w):=by
 obtain ⟨g0,g1,g2⟩:=hg.cells
 have gl:=hg.lt
 have HG:=Lib.hid hg
 clear hg
 go_enter Tryz.func38,Tryz.ntmps38
 go_wp2_with fail
 refine bodyPost_ret (v:=.agg #[.int .i64 0,.int .i64 0,.int .i64 0,.string ⟨#[]⟩]) (by simp [results,Tryz.results38,go_sem]) rfl ?_
 exact ⟨rfl,⟨rfl,rfl,rfl,Nat.zero_le _⟩,HG.out.below (b_new _ _),Gr.of_below (b_new _ _)⟩
set_option maxHeartbeats 1000000 in
theorem nextV_some (G n c a:Nat) (A:Option Addr) (rs:List Rw) (w:World) (hrl:rs.length=n) (hg:Gen w G A n c a) (hr:RawsV w A rs c) (hn:0 < n) (ha:a<=1000000000) :
  Calls Tryz.prog 38 #[.pointer (some ⟨G,0,none⟩)] w (NextV G A rs c a w):=by
 obtain ⟨g0,g1,g2⟩:=hg.cells
 have gl:=hg.lt
 obtain ⟨j,hj⟩:∃ j,a % n=j:=⟨_,rfl⟩
 have hjn:j < n:=by rw [← hj]; exact Nat.mod_lt _ hn
 obtain ⟨ad,rfl,⟨r0,r1,r2,r3⟩,k0,k1,k2,k3⟩:=hr.2.2 j (by rw [hrl]; exact hjn)
 have hnv:∀ R:Rw,rs[j]?=some R->nextV rs a=⟨R.k,wrap64 (R.x + (a:Int) / (n:Int)),R.y,R.t⟩:=fun R h => by
  unfold nextV
  rw [hrl,hj,h]
 have hnv:=hnv _ (List.getElem?_eq_getElem (by rw [hrl]; exact hjn))
 have hna:nextA rs a=a + 1:=by unfold nextA; rw [if_neg (by omega)]
 generalize hR:rs[j]'(by rw [hrl]; exact hjn)=R at r0 r1 r2 r3 k0 k1 k2 k3 hnv
 obtain ⟨K,X,Y,T⟩:=R
 simp only at r0 r1 r2 r3 k0 k1 k2 k3 hnv
 have hn2:n<=maxLen:=Nat.le_trans (by have:=hr.1; omega) hr.2.1
 unfold maxLen at hn2
 have i0:(0:Int)<=(a:Int):=by omega
 have i1:(0:Int) < (n:Int):=by omega
 have i2:((n:Int) == 0)=false:=beq_eq_false_iff_ne.2 (by omega)
 have i3:((a:Int) % (n:Int)).toNat=j:=by rw [← hj,← Int.natCast_emod,Int.toNat_natCast]
 have i4:(0:Int)<=(a:Int) % (n:Int):=Int.emod_nonneg _ (by omega)
 have i5:(a:Int) % (n:Int) < (n:Int):=Int.emod_lt_of_pos _ i1
 have i6:¬ (n:Int)=0:=by omega
 have HG:=Lib.hid hg
 have HNV:=Lib.hid hnv
 have HNA:=Lib.hid hna
 have HRL:=Lib.hid hrl
 clear hg hr hj hnv hna hrl hR
 go_enter Tryz.func38,Tryz.ntmps38
 go_wp2_with fail
 have v0:∀ o o',((w.alloc o).alloc o').cell? (ad.add (j * 4))=some (.int .i64 K):=fun o o' => by rw [World.cell?_alloc_lt _ _ _ (by have:=cell_lt' r0; simp; omega),World.cell?_alloc_lt _ _ _ (cell_lt' r0)]; exact r0
 have v1:∀ o o',((w.alloc o).alloc o').cell? ⟨(ad.add (j * 4)).block,(ad.add (j * 4)).off + 1,none⟩=some (.int .i64 X):=fun o o' => by rw [World.cell?_alloc_lt _ _ _ (by have:=cell_lt' r1; simp; simp at this; omega),World.cell?_alloc_lt _ _ _ (cell_lt' r1)]; exact r1
 have v2:∀ o o',((w.alloc o).alloc o').cell? ⟨(ad.add (j * 4)).block,(ad.add (j * 4)).off + 2,none⟩=some (.int .i64 Y):=fun o o' => by rw [World.cell?_alloc_lt _ _ _ (by have:=cell_lt' r2; simp; simp at this; omega),World.cell?_alloc_lt _ _ _ (cell_lt' r2)]; exact r2
 have v3:∀ o o',((w.alloc o).alloc o').cell? ⟨(ad.add (j * 4)).block,(ad.add (j * 4)).off + 3,none⟩=some (.string T):=fun o o' => by rw [World.cell?_alloc_lt _ _ _ (by have:=cell_lt' r3; simp; simp at this; omega),World.cell?_alloc_lt _ _ _ (cell_lt' r3)]; exact r3
 have u0:∀ o,(w.alloc o).cell? (ad.add (j * 4))=some (.int .i64 K):=fun o => by rw [World.cell?_alloc_lt _ _ _ (cell_lt' r0)]; exact r0
 have u1:∀ o,(w.alloc o).cell? ⟨(ad.add (j * 4)).block,(ad.add (j * 4)).off + 1,none⟩=some (.int .i64 X):=fun o => by rw [World.cell?_alloc_lt _ _ _ (cell_lt' r1)]; exact r1
 have u2:∀ o,(w.alloc o).cell? ⟨(ad.add (j * 4)).block,(ad.add (j * 4)).off + 2,none⟩=some (.int .i64 Y):=fun o => by rw [World.cell?_alloc_lt _ _ _ (cell_lt' r2)]; exact r2
 have u3:∀ o,(w.alloc o).cell? ⟨(ad.add (j * 4)).block,(ad.add (j * 4)).off + 3,none⟩=some (.string T):=fun o => by rw [World.cell?_alloc_lt _ _ _ (cell_lt' r3)]; exact r3
 clear r0 r1 r2 r3
 go_region
 clear v0 v1 v2 v3 u0 u1 u2 u3
 have d0:(0:Int)<=(a:Int) / (n:Int):=Int.ediv_nonneg i0 (by omega)
 have d1:(a:Int) / (n:Int)<=1000000000:=Int.le_trans (Int.ediv_le_self _ i0) (by omega)
 go_wp2_with fail
 go_region
 go_wp2_with fail
 refine bodyPost_ret (v:=.agg #[.int .i64 K,.int .i64 (wrap64 (X + (a:Int) / (n:Int))),.int .i64 Y,.string T]) (by simp [results,Tryz.results38,go_sem]) rfl ?_
 have hs:=Gen.step HG.out
 unfold NextV
 rw [HNV.out,HNA.out,HRL.out]
 refine ⟨rfl,⟨k0,wrap64_wf _,k2,k3⟩,?_,?_⟩
 ·exact ((hs.1.alloc _).alloc _).below (b_drew (b_drew (Below.refl _ _)))
 ·exact hs.2.trans (Gr.of_below (b_drew (b_drew (b_more (b_new _ _) _))))
theorem nextV_any (G c a:Nat) (A:Option Addr) (rs:List Rw) (w:World) (hg:Gen w G A rs.length c a) (hr:RawsV w A rs c) (ha:a<=1000000000) :
  Calls Tryz.prog 38 #[.pointer (some ⟨G,0,none⟩)] w (NextV G A rs c a w):=by
 rcases Nat.eq_zero_or_pos rs.length with h | h
 ·obtain rfl:rs=[]:=List.length_eq_zero_iff.1 h
  exact nextV_none G c a A w hg
 ·exact nextV_some G _ c a A rs w rfl hg hr h ha
end RawN
namespace RkM
set_option linter.unusedVariables false
def rk (r:List Int) (i:Nat):Int:=r.getD i 0
def nd (ns:List (List Nat)) (i:Nat):List Nat:=ns.getD i []
def aboveI (r:List Int):List Nat->Int->Int
 | [],a => a
 | i :: l,a => if rk r i=-1 then -1 else aboveI r l (max a (rk r i + 1))
def sweepN (ns:List (List Nat)) (r:List Int):Nat->List Int
 | 0 => r
 | k + 1 => (sweepN ns r k).set k (aboveI (sweepN ns r k) (nd ns k) 0)
def passN (ns:List (List Nat)):Nat->List Int
 | 0 => List.replicate ns.length (-1)
 | p + 1 => sweepN ns (passN ns p) ns.length
def rankF (ns:List (List Nat)):List Int:=passN ns ns.length
theorem above_un {r:List Int}:∀ (l:List Nat) (a:Int),(∃ i ∈ l,rk r i=-1)->aboveI r l a=-1
 | [],a,⟨i,h,_⟩ => by simp at h
 | j :: l,a,⟨i,h,e⟩ => by
  unfold aboveI
  by_cases hj:rk r j=-1
  ·rw [if_pos hj]
  ·rw [if_neg hj]
   rcases List.mem_cons.1 h with rfl | h
   ·exact absurd e hj
   ·exact above_un l _ ⟨i,h,e⟩
theorem above_ok {r:List Int}:∀ (l:List Nat) (a:Int),(∀ i ∈ l,0<=rk r i)->0<=a->a<=aboveI r l a/\(∀ i ∈ l,rk r i + 1<=aboveI r l a)/\(aboveI r l a=a ∨ ∃ i ∈ l,aboveI r l a=rk r i + 1)
 | [],a,_,_ => ⟨Int.le_refl _,fun i h => by simp at h,.inl rfl⟩
 | j :: l,a,h,ha => by
  have hj:=h j (by simp)
  unfold aboveI
  rw [if_neg (by omega)]
  obtain ⟨h1,h2,h3⟩:=above_ok l (max a (rk r j + 1)) (fun i hi => h i (by simp [hi])) (by omega)
  refine ⟨by omega,fun i hi => ?_,?_⟩
  ·rcases List.mem_cons.1 hi with rfl | hi
   ·omega
   ·exact h2 i hi
  ·rcases h3 with h3 | ⟨i,hi,e⟩
   ·by_cases hm:a<=rk r j + 1
    ·exact .inr ⟨j,by simp,by omega⟩
    ·exact .inl (by omega)
   ·exact .inr ⟨i,by simp [hi],e⟩
theorem above_congr {r s:List Int}:∀ (l:List Nat) (a:Int),(∀ i ∈ l,rk r i=rk s i)->aboveI r l a=aboveI s l a
 | [],_,_ => rfl
 | j :: l,a,h => by
  unfold aboveI
  rw [h j (by simp),above_congr l _ fun i hi => h i (by simp [hi])]
theorem above_le {r:List Int} {b:Int} (hb:0<=b) (h:∀ i,rk r i<=b):∀ (l:List Nat) (a:Int),a<=b + 1->aboveI r l a<=b + 1
 | [],a,ha => ha
 | j :: l,a,ha => by
  unfold aboveI
  have:=h j
  split
  ·omega
  ·exact above_le hb h l _ (by omega)
theorem above_ge {r:List Int} (h:∀ i,-1<=rk r i):∀ (l:List Nat) (a:Int),-1<=a->-1<=aboveI r l a
 | [],a,ha => ha
 | j :: l,a,ha => by
  unfold aboveI
  split
  ·omega
  ·exact above_ge h l _ (by omega)
theorem rk_set (r:List Int) (k:Nat) (v:Int) (i:Nat) (hk:k < r.length):rk (r.set k v) i=if i=k then v else rk r i:=by
 unfold rk
 rw [List.getD_eq_getElem?_getD,List.getD_eq_getElem?_getD,List.getElem?_set]
 by_cases h:i=k
 ·subst h; rw [if_pos rfl,if_pos hk,if_pos rfl]; rfl
 ·rw [if_neg (fun e => h e.symm),if_neg h]
theorem sweep_len (ns:List (List Nat)) (r:List Int):∀ k,(sweepN ns r k).length=r.length
 | 0 => rfl
 | k + 1 => by unfold sweepN; rw [List.length_set,sweep_len ns r k]
theorem pass_len (ns:List (List Nat)):∀ p,(passN ns p).length=ns.length
 | 0 => by unfold passN; rw [List.length_replicate]
 | p + 1 => by unfold passN; rw [sweep_len,pass_len ns p]
theorem rankF_len (ns:List (List Nat)):(rankF ns).length=ns.length:=pass_len ns _
def Bd (r:List Int) (b:Int):Prop:=∀ i,-1<=rk r i/\rk r i<=b
theorem bd_above {r:List Int} {b:Int} (h:Bd r b) (hb:0<=b) (l:List Nat):-1<=aboveI r l 0/\aboveI r l 0<=b + 1:=⟨above_ge (fun i => (h i).1) l 0 (by omega),above_le hb (fun i => (h i).2) l 0 (by omega)⟩
theorem bd_sweep {ns:List (List Nat)} {r:List Int} {b:Int} (h:Bd r b) (hb:0<=b) (hl:r.length=ns.length):∀ k:Nat,k<=ns.length->Bd (sweepN ns r k) (b + (k:Int))
 | 0,_ => fun i => by have:=h i; show -1<=rk r i/\rk r i<=b + 0; omega
 | k + 1,hk => fun i => by
  have ih:=bd_sweep h hb hl k (by omega)
  have hv:=bd_above ih (by omega) (nd ns k)
  unfold sweepN
  rw [rk_set _ _ _ _ (by rw [sweep_len]; omega)]
  have:=ih i
  split <;> omega
theorem bd_pass (ns:List (List Nat)):∀ p:Nat,Bd (passN ns p) ((p:Int) * (ns.length:Int))
 | 0 => fun i => by
  unfold passN rk
  rw [List.getD_eq_getElem?_getD,List.getElem?_replicate]
  split <;> simp
 | p + 1 => by
  have:=bd_sweep (bd_pass ns p) (Int.mul_nonneg (by omega) (by omega)) (pass_len ns p) ns.length (Nat.le_refl _)
  intro i
  have h:=this i
  unfold passN
  rw [show ((p + 1:Nat):Int) * (ns.length:Int)=(p:Int) * (ns.length:Int) + (ns.length:Int) by rw [Int.natCast_add,Int.add_mul]; simp]
  exact h
structure Con (ns:List (List Nat)) (r:List Int):Prop where
 len:r.length=ns.length
 lo:∀ i,-1<=rk r i
 eq:∀ i,i < ns.length->rk r i ≠ -1->aboveI r (nd ns i) 0=rk r i
def Mono (r s:List Int):Prop:=∀ i,rk r i ≠ -1->rk s i=rk r i
theorem Mono.refl (r:List Int):Mono r r:=fun _ _ => rfl
theorem Mono.trans {a b c:List Int} (h:Mono a b) (g:Mono b c):Mono a c:=fun i hi => by
 have h1:=h i hi
 rw [g i (by rw [h1]; exact hi),h1]
theorem above_all {r:List Int} {l:List Nat} {a:Int} (h:aboveI r l a ≠ -1):∀ i ∈ l,rk r i ≠ -1:=fun i hi e => h (above_un l a ⟨i,hi,e⟩)
theorem con_step {ns:List (List Nat)} {r:List Int} (h:Con ns r) {k:Nat} (hk:k < ns.length):Con ns (r.set k (aboveI r (nd ns k) 0))/\Mono r (r.set k (aboveI r (nd ns k) 0)):=by
 have hkl:k < r.length:=by rw [h.len]; exact hk
 have hm:Mono r (r.set k (aboveI r (nd ns k) 0)):=fun i hi => by
  rw [rk_set _ _ _ _ hkl]
  by_cases e:i=k
  ·subst e; rw [if_pos rfl,h.eq i hk hi]
  ·rw [if_neg e]
 refine ⟨⟨by rw [List.length_set,h.len],fun i => ?_,fun i hi hne => ?_⟩,hm⟩
 ·rw [rk_set _ _ _ _ hkl]
  split
  ·exact above_ge h.lo _ _ (by omega)
  ·exact h.lo i
 ·have key:rk (r.set k (aboveI r (nd ns k) 0)) i=aboveI r (nd ns i) 0:=by
   rw [rk_set _ _ _ _ hkl] at hne ⊢
   by_cases e:i=k
   ·subst e; rw [if_pos rfl]
   ·rw [if_neg e] at hne ⊢; exact (h.eq i hi hne).symm
  rw [key] at hne ⊢
  exact above_congr _ _ fun j hj => hm j (above_all hne j hj)
theorem con_sweep {ns:List (List Nat)} {r:List Int} (h:Con ns r):∀ k:Nat,k<=ns.length->Con ns (sweepN ns r k)/\Mono r (sweepN ns r k)
 | 0,_ => ⟨h,Mono.refl _⟩
 | k + 1,hk => by
  obtain ⟨h1,h2⟩:=con_sweep h k (by omega)
  obtain ⟨h3,h4⟩:=con_step h1 (k:=k) (by omega)
  exact ⟨h3,h2.trans h4⟩
theorem mono_sweep {ns:List (List Nat)} {r:List Int} (h:Con ns r) (k:Nat):∀ m:Nat,k + m<=ns.length->Mono (sweepN ns r k) (sweepN ns r (k + m))
 | 0,_ => Mono.refl _
 | m + 1,hm => by
  have h1:k + m < ns.length:=by omega
  exact (mono_sweep h k m (by omega)).trans (con_step (con_sweep h (k + m) (by omega)).1 h1).2
theorem con_pass (ns:List (List Nat)):∀ p,Con ns (passN ns p)
 | 0 => ⟨pass_len ns 0,fun i => (bd_pass ns 0 i).1,fun i hi hne => by
   exfalso; apply hne
   unfold passN rk
   rw [List.getD_eq_getElem?_getD,List.getElem?_replicate,if_pos hi]; rfl⟩
 | p + 1 => (con_sweep (con_pass ns p) _ (Nat.le_refl _)).1
def cnt (p:Nat->Bool):Nat->Nat
 | 0 => 0
 | n + 1 => cnt p n + (if p n=true then 1 else 0)
theorem cnt_le (p q:Nat->Bool):∀ n,(∀ i,i < n->p i=true->q i=true)->cnt p n<=cnt q n
 | 0,_ => Nat.le_refl _
 | n + 1,h => by
  have:=cnt_le p q n fun i hi => h i (by omega)
  have h2:=h n (by omega)
  unfold cnt
  by_cases hp:p n=true
  ·rw [if_pos hp,if_pos (h2 hp)]; omega
  ·rw [if_neg hp]; omega
theorem cnt_lt (p q:Nat->Bool):∀ n,(∀ i,i < n->p i=true->q i=true)->(∃ i,i < n/\q i=true/\p i=false)->cnt p n < cnt q n
 | 0,_,⟨i,h,_⟩ => absurd h (by omega)
 | n + 1,h,⟨i,hi,hq,hp⟩ => by
  unfold cnt
  by_cases e:i=n
  ·subst e
   have:=cnt_le p q i fun j hj => h j (by omega)
   rw [if_pos hq,if_neg (by rw [hp]; decide)]; omega
  ·have:=cnt_lt p q n (fun j hj => h j (by omega)) ⟨i,by omega,hq,hp⟩
   have h2:=h n (by omega)
   by_cases hp:p n=true
   ·rw [if_pos hp,if_pos (h2 hp)]; omega
   ·rw [if_neg hp]; omega
theorem cnt_bd (p:Nat->Bool):∀ n,cnt p n<=n
 | 0 => Nat.le_refl _
 | n + 1 => by unfold cnt; have:=cnt_bd p n; split <;> omega
theorem cnt_all (p:Nat->Bool) (n:Nat) (h:n<=cnt p n):∀ i,i < n->p i=true:=fun i hi => by
 by_cases hp:p i=true
 ·exact hp
 ·have h1:=cnt_lt p (fun _ => true) n (fun _ _ _ => rfl) ⟨i,hi,rfl,by simpa using hp⟩
  have h2:=cnt_bd (fun _ => true) n
  omega
def Fix (ns:List (List Nat)) (r:List Int):Prop:=∀ i,i < ns.length->aboveI r (nd ns i) 0=rk r i
def isR (r:List Int) (i:Nat):Bool:=decide (rk r i ≠ -1)
theorem fix_sweep {ns:List (List Nat)} {r:List Int} (hl:r.length=ns.length) (h:Fix ns r):∀ k:Nat,k<=ns.length->∀ i,rk (sweepN ns r k) i=rk r i
 | 0,_ => fun _ => rfl
 | k + 1,hk => fun i => by
  have ih:=fix_sweep hl h k (by omega)
  unfold sweepN
  rw [rk_set _ _ _ _ (by rw [sweep_len]; omega),ih]
  by_cases e:i=k
  ·subst e
   rw [if_pos rfl,above_congr _ _ (fun j _ => ih j),h i (by omega)]
  ·rw [if_neg e]
theorem fix_of_eq {ns:List (List Nat)} {r s:List Int} (h:Fix ns r) (e:∀ i,rk s i=rk r i):Fix ns s:=fun i hi => by
 rw [above_congr _ _ (fun j _ => e j),h i hi,e]
theorem still_fix {ns:List (List Nat)} {r:List Int} (hc:Con ns r) (h:∀ i,i < ns.length->rk (sweepN ns r ns.length) i ≠ -1->rk r i ≠ -1):Fix ns r:=fun i hi => by
 have hk:∀ k,k<=ns.length->∀ j,rk (sweepN ns r k) j=rk r j:=fun k hk j => by
  obtain ⟨h1,h2⟩:=con_sweep hc k hk
  by_cases hr:rk r j=-1
  ·by_cases hs:rk (sweepN ns r k) j=-1
   ·rw [hs,hr]
   ·exfalso
    have h3:=mono_sweep hc k (ns.length - k) (by omega) j hs
    rw [show k + (ns.length - k)=ns.length by omega] at h3
    by_cases hj:j < ns.length
    ·exact h j hj (by rw [h3]; exact hs) hr
    ·have:rk r j=0:=by unfold rk; rw [List.getD_eq_getElem?_getD,List.getElem?_eq_none (by rw [hc.len]; omega)]; rfl
     omega
  ·exact h2 j hr
 have h1:=hk (i + 1) (by omega) i
 unfold sweepN at h1
 rw [rk_set _ _ _ _ (by rw [sweep_len,hc.len]; exact hi),if_pos rfl,above_congr _ _ (fun j _ => hk i (by omega) j)] at h1
 exact h1
theorem pass_fix (ns:List (List Nat)):∀ p,Fix ns (passN ns p) ∨ p<=cnt (isR (passN ns p)) ns.length
 | 0 => .inr (Nat.zero_le _)
 | p + 1 => by
  have hc:=con_pass ns p
  obtain ⟨_,hm⟩:=con_sweep hc ns.length (Nat.le_refl _)
  rcases pass_fix ns p with h | h
  ·exact .inl (fix_of_eq h (fix_sweep (pass_len ns p) h ns.length (Nat.le_refl _)))
  ·by_cases hx:∃ i,i < ns.length/\isR (passN ns (p + 1)) i=true/\isR (passN ns p) i=false
   ·right
    have:=cnt_lt (isR (passN ns p)) (isR (passN ns (p + 1))) ns.length (fun i hi hp => by
     unfold isR at hp ⊢
     have hp:=of_decide_eq_true hp
     refine decide_eq_true ?_
     show rk (sweepN ns (passN ns p) ns.length) i ≠ -1
     rw [hm i hp]; exact hp) hx
    omega
   ·left
    have hf:Fix ns (passN ns p):=still_fix hc fun i hi hs hr => hx ⟨i,hi,decide_eq_true hs,by unfold isR; rw [hr]; rfl⟩
    exact fix_of_eq hf (fix_sweep (pass_len ns p) hf ns.length (Nat.le_refl _))
theorem rankF_fix (ns:List (List Nat)):Fix ns (rankF ns):=by
 rcases pass_fix ns ns.length with h | h
 ·exact h
 ·intro i hi
  have:=cnt_all _ _ h i hi
  exact (con_pass ns ns.length).eq i hi (of_decide_eq_true this)
theorem rankF_ok {ns:List (List Nat)} {m:Nat->Nat} (h:∀ i,i < ns.length->∀ j ∈ nd ns i,j < ns.length/\m j < m i):∀ (b i:Nat),m i<=b->i < ns.length->0<=rk (rankF ns) i/\rk (rankF ns) i<=(m i:Int)
 | b,i,hb,hi => by
  have hn:∀ j ∈ nd ns i,0<=rk (rankF ns) j/\rk (rankF ns) j<=(m j:Int):=fun j hj => by
   obtain ⟨h1,h2⟩:=h i hi j hj
   exact rankF_ok h (b - 1) j (by omega) h1
  obtain ⟨h1,h2,h3⟩:=above_ok (nd ns i) 0 (fun j hj => (hn j hj).1) (by omega)
  rw [rankF_fix ns i hi] at h1 h2 h3
  refine ⟨h1,?_⟩
  rcases h3 with h3 | ⟨j,hj,e⟩
  ·omega
  ·have:=(hn j hj).2
   have:=(h i hi j hj).2
   omega
termination_by b i => m i
decreasing_by exact h2
def Mx (r:List Int) (S:Nat->Prop) (m:Int):Prop:=0<=m/\(∀ j,S j->rk r j + 1<=m)/\(m=0 ∨ ∃ j,S j/\m=rk r j + 1)
theorem rank_mx {ns:List (List Nat)} (h0:∀ i,i < ns.length->0<=rk (rankF ns) i) (h:∀ i,i < ns.length->∀ j ∈ nd ns i,j < ns.length) (i:Nat) (hi:i < ns.length):Mx (rankF ns) (fun j => j ∈ nd ns i) (rk (rankF ns) i):=by
 obtain ⟨h1,h2,h3⟩:=above_ok (nd ns i) 0 (fun j hj => h0 j (h i hi j hj)) (by omega)
 rw [rankF_fix ns i hi] at h1 h2 h3
 exact ⟨h1,h2,h3⟩
end RkM
end Go.Proofs.YtonlkmkfcaadlaaGreatDoor
