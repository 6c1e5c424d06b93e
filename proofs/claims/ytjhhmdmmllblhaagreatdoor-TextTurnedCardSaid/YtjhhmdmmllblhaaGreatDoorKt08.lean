/- Pg TxTie TxLong TxTwice TxTwiceP: what these laws name of them. -/
import Derived.Test.YtjhhmdmmllblhaaGreatDoorKt02
import Derived.Test.YtjhhmdmmllblhaaGreatDoorKt07
namespace Go.Proofs.YtjhhmdmmllblhaaGreatDoor
set_option linter.unusedVariables false
namespace PgM
open Go.RowKit
open ValM LexM NumM ExM NmM Kit ExL ExP ExN ExC RawV Within RawL GenL FldP FldR FldC FrmM TyM Ty NmC NmP NmA NmT SMp
set_option linter.unusedVariables false
def PgAt (w:World) (p:Addr) (e:PE):Prop :=
 w.cell? p=some (.string e.nm)/\w.cell? ⟨p.block,p.off + 1,none⟩=some (.slice e.F e.fs.length e.fc)/\w.cell? ⟨p.block,p.off + 2,none⟩=some (.int .i64 e.x.d.op)/\w.cell? ⟨p.block,p.off + 3,none⟩=some (.int .i64 e.x.d.k)/\w.cell? ⟨p.block,p.off + 4,none⟩=some (.int .i64 e.x.d.n) ∧
 w.cell? ⟨p.block,p.off + 5,none⟩=some (.string e.x.d.s)/\w.cell? ⟨p.block,p.off + 6,none⟩=some (.string e.x.d.nm)/\w.cell? ⟨p.block,p.off + 7,none⟩=some (.slice e.B e.m e.c)
theorem PgAt.of_block {w w':World} {p:Addr} {e:PE} (h:PgAt w p e) (hb:w'.heap[p.block]?=w.heap[p.block]?):PgAt w' p e:=by
 have k:∀ q:Addr,q.block=p.block->w'.cell? q=w.cell? q:=fun q hq => World.cell?_of_block (by rw [hq]; exact hb)
 obtain ⟨a0,a1,a2,a3,a4,a5,a6,a7⟩:=h
 exact ⟨(k p rfl).trans a0,(k ⟨p.block,p.off + 1,none⟩ rfl).trans a1,(k ⟨p.block,p.off + 2,none⟩ rfl).trans a2,(k ⟨p.block,p.off + 3,none⟩ rfl).trans a3,(k ⟨p.block,p.off + 4,none⟩ rfl).trans a4,(k ⟨p.block,p.off + 5,none⟩ rfl).trans a5,(k ⟨p.block,p.off + 6,none⟩ rfl).trans a6,(k ⟨p.block,p.off + 7,none⟩ rfl).trans a7⟩
theorem PgAt.lt {w:World} {p:Addr} {e:PE} (h:PgAt w p e):p.block < w.heap.size:=cell_lt' h.1
def Pgs (w:World) (A:Option Addr) (ps:List PE):Prop:=∀ (i:Nat) (h:i < ps.length),∃ a,A=some a/\PgAt w (a.add (i * 8)) ps[i]
theorem Pgs.below {w w':World} {A:Option Addr} {ps:List PE} (h:Pgs w A ps) (hb:Below w.heap.size w w'):Pgs w' A ps:=fun i hi => by
 obtain ⟨a,e,hf⟩:=h i hi
 exact ⟨a,e,hf.of_block (hb.block _ hf.lt)⟩
theorem Pgs.take {w:World} {A:Option Addr} {ps:List PE} (h:Pgs w A ps) (k:Nat):Pgs w A (ps.take k):=fun i hi => by
 obtain ⟨a,e,hf⟩:=h i (by simp at hi; omega)
 exact ⟨a,e,by simpa using hf⟩
def TRow (w:World) (A:Option Addr) (L:List ByteArray):Prop:=∀ (j:Nat) (h:j < L.length),∃ a:Addr,A=some a/\w.cell? (a.add j)=some (.string L[j])
theorem TRow.below {w w':World} {A:Option Addr} {L:List ByteArray} (h:TRow w A L) (hb:Below w.heap.size w w'):TRow w' A L:=fun j hj => by
 obtain ⟨a,e,hc⟩:=h j hj
 exact ⟨a,e,(hb.cell (cell_lt' hc)).trans hc⟩
structure PgOk (w:World) (e:PE):Prop where
 nm:e.nm.size<=maxLen
 row:TRow w e.F e.fs
 txt:∀ s ∈ e.fs,s.size<=maxLen
 len:e.fs.length<=maxLen
 skip:Is w e.x e.x.d e.B e.m
theorem PgOk.below {w w':World} {e:PE} (h:PgOk w e) (hb:Below w.heap.size w w'):PgOk w' e:=⟨h.nm,h.row.below hb,h.txt,h.len,h.skip.below hb⟩
def PgsOk (w:World) (ps:List PE):Prop:=∀ e ∈ ps,PgOk w e
theorem PgsOk.below {w w':World} {ps:List PE} (h:PgsOk w ps) (hb:Below w.heap.size w w'):PgsOk w' ps:=fun e he => (h e he).below hb
def pgBox (e:PE):Obj:=.cells #[.string e.nm,.slice e.F e.fs.length e.fc,.int .i64 e.x.d.op,.int .i64 e.x.d.k,.int .i64 e.x.d.n,.string e.x.d.s,.string e.x.d.nm,.slice e.B e.m e.c] 50
theorem pg_cells (w:World) (e:PE) (V:World) (hV:Below (w.alloc (pgBox e)).heap.size (w.alloc (pgBox e)) V):V.cell? ⟨w.heap.size,0,none⟩=some (.string e.nm)/\V.cell? ⟨w.heap.size,1,none⟩=some (.slice e.F e.fs.length e.fc)/\V.cell? ⟨w.heap.size,2,none⟩=some (.int .i64 e.x.d.op)/\V.cell? ⟨w.heap.size,3,none⟩=some (.int .i64 e.x.d.k)/\V.cell? ⟨w.heap.size,4,none⟩=some (.int .i64 e.x.d.n)/\V.cell? ⟨w.heap.size,5,none⟩=some (.string e.x.d.s)/\V.cell? ⟨w.heap.size,6,none⟩=some (.string e.x.d.nm)/\V.cell? ⟨w.heap.size,7,none⟩=some (.slice e.B e.m e.c):=by
 have e1:V.heap[w.heap.size]?=_:=(hV.block _ (by simp)).trans (World.alloc_heap_new w (pgBox e))
 unfold pgBox at e1
 exact ⟨by simp [World.cell?,e1],by simp [World.cell?,e1],by simp [World.cell?,e1],by simp [World.cell?,e1],by simp [World.cell?,e1],by simp [World.cell?,e1],by simp [World.cell?,e1],by simp [World.cell?,e1]⟩
theorem fi_hit {α:Type} {P:α->Bool} {l:List α} {k:Nat} (hk:k < l.length) (h:∀ j (hj:j < l.length),j < k->P l[j]=false) (he:P l[k]=true):l.findIdx P=k :=
 (List.findIdx_eq hk).2 ⟨he,fun j hj => h j (by omega) hj⟩
theorem fi_none {α:Type} {P:α->Bool} {l:List α} (h:∀ j (hj:j < l.length),P l[j]=false):l.findIdx P=l.length :=
 List.findIdx_eq_length.2 fun x hx => by
  obtain ⟨j,hj,rfl⟩:=List.mem_iff_getElem.1 hx
  exact h j hj
theorem fi_at {α:Type} {P:α->Bool} {l:List α} (h:l.findIdx P < l.length):P l[l.findIdx P]=true/\∀ j (hj:j < l.length),j < l.findIdx P->P l[j]=false :=
 ⟨List.findIdx_getElem,fun j hj hlt => by simpa using List.not_of_lt_findIdx hlt⟩
theorem fi_take {α:Type} {P:α->Bool} {l:List α} {k:Nat} (hk:k<=l.length):(l.take k).findIdx P < k ↔ l.findIdx P < k:=by
 have hl:(l.take k).length=k:=by rw [List.length_take]; omega
 constructor
 ·intro h
  obtain ⟨h1,h2⟩:=fi_at (l:=l.take k) (P:=P) (by omega)
  have:=fi_hit (l:=l) (P:=P) (k:=(l.take k).findIdx P) (by omega) (fun j hj hjk => by have:=h2 j (by omega) hjk; simpa using this) (by simpa using h1)
  omega
 ·intro h
  obtain ⟨h1,h2⟩:=fi_at (l:=l) (P:=P) (by omega)
  have:=fi_hit (l:=l.take k) (P:=P) (k:=l.findIdx P) (by omega) (fun j hj hjk => by have:=h2 j (by omega) hjk; simpa using this) (by simpa using h1)
  omega
def nmP (s:ByteArray) (e:PE):Bool:=decide (e.nm=s)
def pAt (ps:List PE) (s:ByteArray):Nat:=ps.findIdx (nmP s)
def metP (ps:List PE) (k:Nat):List ByteArray:=((ps.take k).map PE.fs).flatten
def nameE (fs:List GenL.Fd) (met L:List ByteArray) (j:Nat):Int :=
 if h:j < L.length then (if atF fs L[j] < fs.length then (if hasB (met ++ L.take j) L[j]=true then 6 else 0) else 5) else 0
/-- One page. -/
def pageE (fs : List GenL.Fd) (ps : List PE) (k : Nat) : Int :=
  if h : k < ps.length then
    (if LexB.nameE ps[k].nm.data.toList = 0 then (if pAt ps ps[k].nm < k then 6 else if scan (nameE fs (metP ps k) ps[k].fs) ps[k].fs.length = 0 then (if bareB ps[k].x.d ps[k].m = true then 0 else fitsT (fts fs) ps[k].x 2) else scan (nameE fs (metP ps k) ps[k].fs) ps[k].fs.length)
     else LexB.nameE ps[k].nm.data.toList) else 0
def checkP (fs:List GenL.Fd) (ps:List PE):Int:=if ps.length=0 ∨ 6 < ps.length then 1 else scan (pageE fs ps) ps.length
theorem metP_zero (ps:List PE):metP ps 0=[]:=rfl
theorem metP_succ (ps:List PE) (k:Nat) (h:k < ps.length):metP ps (k + 1)=metP ps k ++ ps[k].fs:=by
 unfold metP
 rw [List.take_succ_eq_append_getElem h,List.map_append,List.flatten_append]
 simp
end PgM
namespace PgA
open Go.RowKit
open ValM LexM NumM ExM NmM Kit ExL ExP ExV NmC NmP NmA NmT RawV Within GenL FldP FrmM PgM
set_option linter.unusedVariables false
def firstE (n k:Nat):Value:=.tuple #[.int .i64 (if k < n then (k:Int) else 0),.int .i64 (if k < n then 0 else 5)]
set_option maxHeartbeats 1000000 in
theorem findC_any (s:ByteArray) (B:Nat) (e:PE) (W:World) (hB:W.cell? ⟨B,0,none⟩=some (.string s)) :
  Calls Tryz.prog 83 #[.agg #[.string e.nm,.slice e.F e.fs.length e.fc,.int .i64 e.x.d.op,.int .i64 e.x.d.k,.int .i64 e.x.d.n,.string e.x.d.s,.string e.x.d.nm,.slice e.B e.m e.c],.pointer (some ⟨B,0,none⟩)] W fun r w' => r=.returned (.bool (nmP s e))/\Below W.heap.size W w':=by
 have hb:=b_new W (pgBox e)
 have hBl:=World.block_lt_of_cell? W _ hB
 have hB1:=(hb.cell (p:=⟨B,0,none⟩) hBl).trans hB
 have hk:(e.nm.toList == s.toList)=nmP s e:=by
  unfold nmP
  by_cases h:e.nm=s
  ·rw [decide_eq_true h]; exact eq_t h
  ·rw [decide_eq_false h]; exact eq_f h
 have HK:=Lib.hid hk
 have HB:=Lib.hid hb
 unfold pgBox at hB1 HB
 clear hb hk
 go_enter Tryz.func83,Tryz.ntmps83
 go_wp2_with fail
 go_ret
 exact ⟨by rw [← HK.out]; rfl,HB.out⟩
set_option maxHeartbeats 2000000 in
theorem indexFind_any (s:ByteArray) (B:Nat) (ps:List PE) (A:Option Addr) (c:Nat) (W:World) (hB:W.cell? ⟨B,0,none⟩=some (.string s)) (hn:ps.length<=maxLen) (h:Pgs W A ps) :
  Calls Tryz.prog 110 #[.slice A ps.length c,.func (.func 83) #[] #[.pointer (some ⟨B,0,none⟩)]] W fun r w' => r=.returned (.int .i64 (if pAt ps s < ps.length then (pAt ps s:Int) else -1))/\Below W.heap.size W w':=by
 obtain ⟨R,hR⟩:∃ R:Int,(if pAt ps s < ps.length then (pAt ps s:Int) else -1)=R:=⟨_,rfl⟩
 have hgood:∀ k (hk:k < ps.length),(∀ j (hj:j < ps.length),j < k->nmP s ps[j]=false)->nmP s ps[k]=true->R=(k:Int):=fun k hk h he => by
  have e:pAt ps s=k:=fi_hit hk h he
  rw [← hR,e,if_pos hk]
 have hbad:(∀ j (hj:j < ps.length),nmP s ps[j]=false)->R=-1:=fun h => by
  have e:pAt ps s=ps.length:=fi_none h
  rw [← hR,e,if_neg (Nat.lt_irrefl _)]
 rw [hR]
 have hcl:=fun (e:PE) (V:World) (hV:Below W.heap.size W V) => findC_any s B e V ((hV.cell (p:=⟨B,0,none⟩) (World.block_lt_of_cell? W _ hB)).trans hB)
 have HG:=Lib.hid hgood
 have HBd:=Lib.hid hbad
 have HP:=Lib.hid h
 have HC:=Lib.hid hcl
 clear hgood hbad hR h hB hcl
 unfold maxLen at hn
 go_enter Tryz.func110,Tryz.ntmps110
 go_wp2_with fail
 go_loopw [5,8] (fun _ i wr => ∃ (k:Nat),i=.int .i64 k/\k<=ps.length/\(∀ j (hj:j < ps.length),j < k->nmP s ps[j]=false)/\Below W.heap.size W wr) (fun _ i _ => ps.length - (intOf i).toNat)
 case atStart => exact ⟨0,rfl,Nat.zero_le _,fun j hj hjk => absurd hjk (by omega),Below.refl _ _⟩
 case round =>
  obtain ⟨k,rfl,hk,hall,hb⟩:=hrel
  by_cases hlt:k < ps.length
  ·obtain ⟨a,rfl,hat⟩:=HP.out k hlt
   obtain ⟨q0,q1,q2,q3,q4,q5,q6,q7⟩:=hat.of_block (hb.block _ hat.lt)
   have hg:=HG.out k hlt hall
   have hnext:nmP s ps[k]=false->∀ j (hj:j < ps.length),j < k + 1->nmP s ps[j]=false:=fun e j hj hjk => by
    rcases Nat.lt_or_ge j k with h | h
    ·exact hall j hj h
    ·obtain rfl:j=k:=by omega
     exact e
   obtain ⟨e,hek⟩:∃ e,ps[k]=e:=⟨_,rfl⟩
   rw [hek] at q0 q1 q2 q3 q4 q5 q6 q7 hg hnext
   have hc:=HC.out e wr hb
   have HC1:=Lib.hid hc
   have HG2:=Lib.hid hg
   have HN:=Lib.hid hnext
   have HBl:=Lib.hid hb
   clear hg hnext hall hek hat hb hc
   generalize nmP s e=bb at HC1 HG2 HN
   go_wp2_with fail
   refine HC1.out.mono ?_; rintro r w1 ⟨rfl,hb1⟩
   have HB1:=Lib.hid (b_trans HBl.out hb1)
   clear hb1
   cases bb with
   | true =>
    obtain rfl:=HG2.out rfl
    go_wp2_with fail
    go_ret
    exact ⟨rfl,HB1.out⟩
   | false =>
    have HN2:=Lib.hid (HN.out rfl)
    go_wp2_with fail
    go_roundw
    case rel => exact ⟨k + 1,by go_num,by omega,HN2.out,HB1.out⟩
    case measure => simp [intOf]; omega
  ·obtain rfl:=HBd.out fun j hj => hall j hj (by omega)
   have HBl:=Lib.hid hb
   clear hall hb
   go_wp2_with fail
   go_ret
   exact ⟨rfl,HBl.out⟩
set_option maxHeartbeats 1000000 in
theorem firstFind_any (s:ByteArray) (B:Nat) (ps:List PE) (A:Option Addr) (c:Nat) (W:World) (hB:W.cell? ⟨B,0,none⟩=some (.string s)) (hn:ps.length<=maxLen) (h:Pgs W A ps) :
  Calls Tryz.prog 82 #[.slice A ps.length c,.func (.func 83) #[] #[.pointer (some ⟨B,0,none⟩)]] W fun r w' => r=.returned (firstE ps.length (pAt ps s))/\Below W.heap.size W w':=by
 have hc:=indexFind_any s B ps A c W hB hn h
 unfold firstE
 generalize pAt ps s=k at hc ⊢
 have HC:=Lib.hid hc
 clear hc h hB
 by_cases hk:k < ps.length
 ·rw [if_pos hk] at HC
  rw [if_pos hk,if_pos hk]
  have t1:¬ (k:Int) < 0:=by omega
  clear hk
  go_enter Tryz.func82,Tryz.ntmps82
  go_wp2_with fail
  refine HC.out.mono ?_; rintro r w1 ⟨rfl,hb1⟩
  have HB1:=Lib.hid hb1
  clear hb1
  go_wp2_with fail
  go_ret2
  exact ⟨rfl,HB1.out⟩
 ·rw [if_neg hk] at HC
  rw [if_neg hk,if_neg hk]
  clear hk
  go_enter Tryz.func82,Tryz.ntmps82
  go_wp2_with fail
  refine HC.out.mono ?_; rintro r w1 ⟨rfl,hb1⟩
  have HB1:=Lib.hid hb1
  clear hb1
  go_wp2_with fail
  go_ret2
  exact ⟨rfl,HB1.out⟩
set_option maxHeartbeats 1000000 in
theorem find_any (s:ByteArray) (ps:List PE) (A:Option Addr) (c:Nat) (w:World) (hn:ps.length<=maxLen) (h:Pgs w A ps) :
  Calls Tryz.prog 50 #[.slice A ps.length c,.string s] w fun r w' => r=.returned (firstE ps.length (pAt ps s))/\Below w.heap.size w w':=by
 have hb:=b_new w (.cells #[.string s] 9)
 have hB:(w.alloc (.cells #[.string s] 9)).cell? ⟨w.heap.size,0,none⟩=some (.string s):=by unfold World.cell?; rw [World.alloc_heap_new]; rfl
 have hc:=firstFind_any s w.heap.size ps A c _ hB hn (h.below hb)
 unfold firstE at hc ⊢
 have HC:=Lib.hid hc
 have HB:=Lib.hid hb
 generalize (if pAt ps s < ps.length then (pAt ps s:Int) else 0)=r1 at HC ⊢
 generalize (if pAt ps s < ps.length then (0:Int) else 5)=r2 at HC ⊢
 clear hc hb hB h
 go_enter Tryz.func50,Tryz.ntmps50
 go_wp2_with fail
 refine HC.out.mono ?_; rintro r w1 ⟨rfl,hb1⟩
 have HB1:=Lib.hid (b_trans HB.out hb1)
 clear hb1
 go_wp2_with fail
 go_ret2
 exact ⟨rfl,HB1.out⟩
end PgA
namespace PgB
open Go.RowKit Go.Maps
open ValM LexM NumM ExM NmM Kit ExL ExP ExN ExC NmC NmP NmA NmT RawV Within RawL GenL FldP FldR FldC FrmM TyM Ty TyO SMp PgM PgA
set_option linter.unusedVariables false
def exBox (e:PE):Obj:=.cells #[.int .i64 e.x.d.op,.int .i64 e.x.d.k,.int .i64 e.x.d.n,.string e.x.d.s,.string e.x.d.nm,.slice e.B e.m e.c] 45
set_option maxRecDepth 100000 in
set_option maxHeartbeats 4000000 in
theorem never_any (e:PE) (w:World):Calls Tryz.prog 30 #[.agg #[.string e.nm,.slice e.F e.fs.length e.fc,.int .i64 e.x.d.op,.int .i64 e.x.d.k,.int .i64 e.x.d.n,.string e.x.d.s,.string e.x.d.nm,.slice e.B e.m e.c]] w fun r w' => r=.returned (.bool (bareB e.x.d e.m))/\Below w.heap.size w w':=by
 have hbb:=b_more (b_new w (pgBox e)) (exBox e)
 have HBb:=Lib.hid hbb
 unfold pgBox exBox at HBb
 clear hbb
 obtain ⟨b,hb⟩:∃ b,bareB e.x.d e.m=b:=⟨_,rfl⟩
 rw [hb]
 unfold bareB at hb
 generalize e.x.d=d at *
 generalize e.m=n at *
 by_cases h1:d.op=0
 ·have t1:(d.op == 0)=true:=beq_iff_eq.2 h1
  rw [decide_eq_true h1,Bool.true_and] at hb
  clear h1
  by_cases h2:d.k=0/\d.n=0/\d.s=⟨#[]⟩
  ·obtain ⟨h2,h3,h4⟩:=h2
   have t2:(d.k == 0)=true:=beq_iff_eq.2 h2
   have t3:(d.n == 0)=true:=beq_iff_eq.2 h3
   have t4:=empty_t h4
   rw [decide_eq_true h2,decide_eq_true h3,decide_eq_true h4,Bool.true_and,Bool.true_and,Bool.true_and] at hb
   clear h2 h3 h4
   by_cases h5:d.nm=⟨#[]⟩
   ·have t5:=empty_t h5
    rw [decide_eq_true h5,Bool.true_and] at hb
    clear h5
    have t6:((n:Int) == 0)=b:=by
     rw [← hb]
     by_cases h6:n=0
     ·subst h6; rfl
     ·rw [decide_eq_false h6]; exact beq_eq_false_iff_ne.2 (by omega)
    clear hb
    cases b
    all_goals
     go_enter Tryz.func30,Tryz.ntmps30
     go_wp2
     go_ret
     exact ⟨rfl,HBb.out⟩
   ·have t5:=empty_n h5
    rw [decide_eq_false h5,Bool.false_and] at hb
    subst hb
    clear h5
    go_enter Tryz.func30,Tryz.ntmps30
    go_wp2
    go_ret
    exact ⟨rfl,HBb.out⟩
  ·have e:b=false:=by
    rw [← hb]
    cases e1:decide (d.k=0) <;> cases e2:decide (d.n=0) <;> cases e3:decide (d.s=⟨#[]⟩) <;> simp_all
   subst e
   clear hb
   by_cases g2:d.k=0
   ·have t2:(d.k == 0)=true:=beq_iff_eq.2 g2
    by_cases g3:d.n=0
    ·have t3:(d.n == 0)=true:=beq_iff_eq.2 g3
     have t4:=empty_n fun g4 => h2 ⟨g2,g3,g4⟩
     clear h2 g2 g3
     go_enter Tryz.func30,Tryz.ntmps30
     go_wp2
     go_ret
     exact ⟨rfl,HBb.out⟩
    ·have t3:(d.n == 0)=false:=beq_eq_false_iff_ne.2 g3
     clear h2 g2 g3
     go_enter Tryz.func30,Tryz.ntmps30
     go_wp2
     go_ret
     exact ⟨rfl,HBb.out⟩
   ·have t2:(d.k == 0)=false:=beq_eq_false_iff_ne.2 g2
    clear h2 g2
    go_enter Tryz.func30,Tryz.ntmps30
    go_wp2
    go_ret
    exact ⟨rfl,HBb.out⟩
 ·have t1:(d.op == 0)=false:=beq_eq_false_iff_ne.2 h1
  rw [decide_eq_false h1] at hb
  simp only [Bool.false_and] at hb
  subst hb
  clear h1
  go_enter Tryz.func30,Tryz.ntmps30
  go_wp2
  go_ret
  exact ⟨rfl,HBb.out⟩
def plM (fs:List GenL.Fd) (met:List ByteArray) (s:ByteArray):Option Value:=if atF fs s < fs.length then some (.bool (hasB met s)) else none
def unM (fs:List GenL.Fd) (k:Nat) (s:ByteArray):Option Value:=if atF fs s < k then some (.bool false) else none
theorem unM_zero (fs:List GenL.Fd) (s:ByteArray):none=unM fs 0 s:=by unfold unM; rw [if_neg (Nat.not_lt_zero _)]
theorem unM_last (fs:List GenL.Fd) (s:ByteArray):unM fs fs.length s=plM fs [] s:=by unfold unM plM; rw [hasB_nil]
theorem unM_step (fs:List GenL.Fd) (k:Nat) (hk:k < fs.length) (s:ByteArray):(if s=fs[k].nm then some (.bool false) else unM fs k s)=unM fs (k + 1) s:=by
 unfold unM
 by_cases e:s=fs[k].nm
 ·rw [if_pos e,if_pos]
  rcases Nat.lt_or_ge k (atF fs s) with h | h
  ·exfalso
   by_cases h2:atF fs s < fs.length
   ·exact (atF_at h2).2 k hk h e.symm
   ·by_cases h7:∃ j,∃ hj:j < fs.length,fs[j].nm=s/\∀ i (hi:i < fs.length),i < j->fs[i].nm ≠ s
    ·obtain ⟨j,hj,e2,hm⟩:=h7
     have:=atF_eq fs s j hj hm e2
     omega
    ·have h8:∀ j (hj:j < fs.length),fs[j].nm ≠ s:=fun j => by
      refine Nat.strongRecOn j fun j ih hj e => h7 ⟨j,hj,e,fun i hi hij => ih i hij hi⟩
     exact h8 k hk e.symm
  ·omega
 ·rw [if_neg e]
  by_cases h:atF fs s < k
  ·rw [if_pos h,if_pos (by omega)]
  ·rw [if_neg h,if_neg]
   intro h2
   have h3:atF fs s=k:=by omega
   have h4:=(atF_at (fs:=fs) (s:=s) (by omega)).1
   simp only [h3] at h4
   exact e h4.symm
theorem plM_step (fs:List GenL.Fd) (met:List ByteArray) (t:ByteArray) (h:atF fs t < fs.length) (s:ByteArray):(if s=t then some (.bool true) else plM fs met s)=plM fs (met ++ [t]) s:=by
 unfold plM
 by_cases e:s=t
 ·subst e
  rw [if_pos rfl,if_pos h,hasB_append,hasB_cons]; simp
 ·rw [if_neg e,hasB_append,hasB_cons,hasB_nil,decide_eq_false (fun h => e h.symm)]; simp
theorem look_bool {W:World} {m n:Nat} {M:ByteArray->Option Value} (h:SM W m n M) (s:ByteArray) (hs:s.size<=maxLen) :
  (Instr.lookup 102 (.map (some m)) (.string s) true).run Tryz.prog W=.ok (.tuple #[(M s).getD (.bool false),.bool (M s).isSome]) W:=h.look Tryz.underlying102 (by kernel_rfl) s hs
theorem put_bool {W:World} {m n:Nat} {M:ByteArray->Option Value} (h:SM W m n M) (s:ByteArray) (hs:s.size<=maxLen) (v:Value) (hn:n < maxLen) :
  ∃ w',(Instr.mapUpdate 102 (.map (some m)) (.string s) v).run Tryz.prog W=.ok () w'/\SM w' m (n + 1) (fun t => if t=s then some v else M t)/\W.grownBy w' (some m):=h.put Tryz.underlying102 s hs v hn
theorem b_grown {B:Nat} {a w w':World} {m:Nat} (h:Below B a w) (hg:w.grownBy w' (some m)) (hB:B<=w.heap.size) (hm:B<=m):Below B a w':=h.grown hg hB (fun k e => by injection e with e; omega)
theorem g_trans {a b c:World} {m:Nat} (h:a.grownBy b (some m)) (k:b.grownBy c (some m)):a.grownBy c (some m):=h.andThen k fun j e => .inr e
set_option maxRecDepth 100000 in
set_option maxHeartbeats 4000000 in
theorem unplaced_any (fs:List GenL.Fd) (FA:Option Addr) (fc:Nat) (w:World) (hm:fs.length<=1048576) (hf:Flds w FA fs) (hz:∀ (k:Nat) (h:k < fs.length),fs[k].nm.size<=maxLen) :
  Calls Tryz.prog 48 #[.slice FA fs.length fc] w fun r w' => ∃ m,r=.returned (.map (some m))/\w.heap.size<=m/\SM w' m fs.length (plM fs [])/\Below w.heap.size w w':=by
 have hmm:=@run_makeMap Tryz.prog
 obtain ⟨W1,hW1⟩:∃ V,w.alloc (.map #[] 0)=V:=⟨_,rfl⟩
 have hs0:SM W1 w.heap.size 0 (unM fs 0):=by rw [← hW1]; exact (SM.made w).to fun s => unM_zero fs s
 have hb1:Below w.heap.size w W1:=by rw [← hW1]; exact b_new w _
 have HS0:=Lib.hid hs0
 have HB1:=Lib.hid hb1
 have HW1:=Lib.hid hW1
 have HF:=Lib.hid hf
 have HZ:=Lib.hid hz
 obtain ⟨m,hmm2⟩:∃ m,w.heap.size=m:=⟨_,rfl⟩
 have hwm:w.heap.size<=m:=Nat.le_of_eq hmm2
 rw [hmm2] at HS0
 have HM:=Lib.hid hmm2
 clear hs0 hb1 hW1 hf hz hmm2
 go_enter Tryz.func48,Tryz.ntmps48
 go_wp2_with fail
 rw [HW1.out,HM.out]
 go_loopw [5,9] (fun _ ii wr => ∃ k:Nat,ii=.int .i64 k/\k<=fs.length/\SM wr m k (unM fs k)/\Below w.heap.size w wr) (fun _ ii _ => fs.length - (intOf ii).toNat)
 case atStart => exact ⟨0,rfl,Nat.zero_le _,HS0.out,HB1.out⟩
 case round =>
  obtain ⟨k,rfl,hk,hsm,hb⟩:=hrel
  by_cases hlt:k < fs.length
  ·obtain ⟨ad,rfl,hat⟩:=HF.out.below hb k hlt
   have hnz:=HZ.out k hlt
   have hstep:=unM_step fs k hlt
   obtain ⟨f,hfk⟩:∃ f,fs[k]=f:=⟨_,rfl⟩
   rw [hfk] at hat hnz hstep
   obtain ⟨q0,q1,q2,q3,q4,q5,q6,q7,q8⟩:=hat
   obtain ⟨W5,hW5⟩:∃ V,wr.alloc (.cells #[.string f.nm,.int .i64 f.kind,.int .i64 f.ty,.int .i64 f.d.op,.int .i64 f.d.k,.int .i64 f.d.n,.string f.d.s,.string f.d.nm,.slice f.A f.n f.c] 47)=V:=⟨_,rfl⟩
   obtain ⟨B9,hB9⟩:∃ B,wr.heap.size=B:=⟨_,rfl⟩
   have hb5:=b_new wr (.cells #[.string f.nm,.int .i64 f.kind,.int .i64 f.ty,.int .i64 f.d.op,.int .i64 f.d.k,.int .i64 f.d.n,.string f.d.s,.string f.d.nm,.slice f.A f.n f.c] 47)
   have hcell:=head_cells wr f
   unfold rightHead at hcell
   rw [hW5,hB9] at hcell
   rw [hW5] at hb5
   obtain ⟨x0,_⟩:=hcell W5 (Below.refl _ _)
   obtain ⟨w7,hput,hs7,hg7⟩:=put_bool (hsm.below hb5) f.nm hnz (.bool false) (by unfold maxLen; omega)
   have hbw:=b_trans hb hb5
   have HN:=Lib.hid (And.intro (hs7.to hstep) (b_grown hbw hg7 hbw.size hwm))
   have HW5:=Lib.hid hW5
   have HB9:=Lib.hid hB9
   clear hsm hb hnz hstep hfk hb5 hcell hs7 hg7 hbw hW5 hB9
   go_upto_region 5 with fail
   rw [HW5.out,HB9.out]
   go_wp2_with fail
   go_roundw
   case rel => exact ⟨k + 1,by go_num,by omega,HN.out.1,HN.out.2⟩
   case measure => simp [intOf]; omega
  ·have ek:k=fs.length:=by omega
   have HN:=Lib.hid (show SM wr m fs.length (plM fs [])/\Below w.heap.size w wr from ⟨by rw [ek] at hsm; exact hsm.to fun s => unM_last fs s,hb⟩)
   clear hsm hb ek
   go_wp2_with fail
   go_ret
   exact ⟨m,rfl,hwm,HN.out.1,HN.out.2⟩
set_option maxRecDepth 100000 in
set_option maxHeartbeats 4000000 in
theorem place_any (fs:List GenL.Fd) (met L:List ByteArray) (A:Option Addr) (c m n:Nat) (w:World) (hL:L.length<=1048576) (hr:TRow w A L) (hz:∀ s ∈ L,s.size<=maxLen) (hs:SM w m n (plM fs met)) (hn:n + L.length < maxLen) (hAm:∀ a,A=some a->0 < L.length->a.block ≠ m) :
  Calls Tryz.prog 51 #[.slice A L.length c,.map (some m)] w fun r w' => r=.returned (.int .i64 (scan (nameE fs met L) L.length))/\(scan (nameE fs met L) L.length=0->SM w' m (n + L.length) (plM fs (met ++ L)))/\w.grownBy w' (some m):=by
 obtain ⟨R,hR⟩:∃ R,scan (nameE fs met L) L.length=R:=⟨_,rfl⟩
 rw [hR]
 have hstop:∀ k,k < L.length->(∀ j,j < k->nameE fs met L j=0)->nameE fs met L k ≠ 0->R=nameE fs met L k:=fun k hk h h0 => by rw [← hR]; exact scan_stop L.length k hk h h0
 have hall:(∀ j,j < L.length->nameE fs met L j=0)->R=0:=fun h => by rw [← hR]; exact scan_zero L.length h
 have HStop:=Lib.hid hstop
 have HAll:=Lib.hid hall
 have HR:=Lib.hid hr
 have HZ:=Lib.hid hz
 have HS:=Lib.hid hs
 have HAm:=Lib.hid hAm
 have hmw:=hs.lt
 have hg0:w.grownBy w (some m):=⟨rfl,rfl,rfl,Nat.le_refl _,fun _ _ _ => rfl⟩
 have HG0:=Lib.hid hg0
 unfold maxLen at hn
 clear hstop hall hr hz hs hAm hR hg0
 go_enter Tryz.func51,Tryz.ntmps51
 go_wp2_with fail
 go_loopw [6,7,8,11] (fun _ _ _ ii wr => ∃ k:Nat,ii=.int .i64 k/\k<=L.length/\(∀ j,j < k->nameE fs met L j=0)/\SM wr m (n + k) (plM fs (met ++ L.take k))/\w.grownBy wr (some m)) (fun _ _ _ ii _ => L.length - (intOf ii).toNat)
 case atStart => exact ⟨0,rfl,Nat.zero_le _,fun j hj => absurd hj (by omega),by rw [List.take_zero,List.append_nil]; exact HS.out,HG0.out⟩
 case round =>
  obtain ⟨k,rfl,hk,hzr,hsm,hg⟩:=hrel
  by_cases hlt:k < L.length
  ·obtain ⟨a,rfl,hc0⟩:=HR.out k hlt
   have hc:=(World.cell?_of_block (a:=a.add k) (hg.block _ (cell_lt' hc0) (fun e => by injection e with e; rw [block_of_add] at e; exact HAm.out a rfl (by omega) e))).trans hc0
   have hts:=HZ.out L[k] (List.getElem_mem hlt)
   have hlk:=look_bool hsm L[k] hts
   have hne:nameE fs met L k=(if atF fs L[k] < fs.length then (if hasB (met ++ L.take k) L[k]=true then 6 else 0) else 5):=by unfold nameE; rw [dif_pos hlt]
   have hstop:=HStop.out k hlt hzr
   have hnext:nameE fs met L k=0->∀ j,j < k + 1->nameE fs met L j=0:=fun e j hj => by
    by_cases h:j=k
    ·subst h; exact e
    ·exact hzr j (by omega)
   have htk:met ++ L.take (k + 1)=met ++ L.take k ++ [L[k]]:=by rw [List.take_succ_eq_append_getElem hlt,List.append_assoc]
   have hpm:∀ h:atF fs L[k] < fs.length,∀ s,(if s=L[k] then some (.bool true) else plM fs (met ++ L.take k) s)=plM fs (met ++ L.take (k + 1)) s:=fun h s => by
    rw [htk]; exact plM_step fs (met ++ L.take k) L[k] h s
   have hput:=put_bool hsm L[k] hts (.bool true) (by unfold maxLen; omega)
   unfold plM at hlk
   generalize L[k]=t at hc hlk hne hpm hput
   have HNe:=Lib.hid hne
   have HStop2:=Lib.hid hstop
   have HNx:=Lib.hid hnext
   have HPm:=Lib.hid hpm
   have HG:=Lib.hid hg
   have HPut:=Lib.hid hput
   clear hc0 hts hne hstop hnext htk hpm hput hsm hg hzr
   by_cases hp:atF fs t < fs.length
   ·rw [if_pos hp] at hlk HNe
    cases hb:hasB (met ++ L.take k) t with
    | true =>
     rw [hb] at hlk HNe
     have hlk2:(Instr.lookup 102 (.map (some m)) (.string t) true).run Tryz.prog wr=.ok (.tuple #[.bool true,.bool true]) wr:=hlk
     have h6:nameE fs met L k=6:=by rw [HNe.out,if_pos rfl]
     obtain rfl:R=6:=(HStop2.out (by rw [h6]; decide)).trans h6
     clear hlk h6 hp hb
     go_wp2_with fail
     go_ret
     first | exact ⟨rfl,fun h => absurd h (by decide),HG.out⟩ | exact ⟨rfl,HG.out⟩
    | false =>
     rw [hb] at hlk HNe
     have hlk2:(Instr.lookup 102 (.map (some m)) (.string t) true).run Tryz.prog wr=.ok (.tuple #[.bool false,.bool true]) wr:=hlk
     have h6:nameE fs met L k=0:=by rw [HNe.out,if_neg (by decide)]
     obtain ⟨w7,hput7,hs7,hg7⟩:=HPut.out
     have HN:=Lib.hid (And.intro (HNx.out h6) (And.intro (hs7.to (HPm.out hp)) (g_trans HG.out hg7)))
     clear hlk h6 hp hb hs7 hg7
     go_wp2_with fail
     go_roundw
     case rel => exact ⟨k + 1,by go_num,by omega,HN.out.1,HN.out.2.1,HN.out.2.2⟩
     case measure => simp [intOf]; omega
   ·rw [if_neg hp] at hlk HNe
    have hlk2:(Instr.lookup 102 (.map (some m)) (.string t) true).run Tryz.prog wr=.ok (.tuple #[.bool false,.bool false]) wr:=hlk
    obtain rfl:R=5:=(HStop2.out (by rw [HNe.out]; decide)).trans HNe.out
    clear hlk hp
    go_wp2_with fail
    go_ret
    first | exact ⟨rfl,fun h => absurd h (by decide),HG.out⟩ | exact ⟨rfl,HG.out⟩
  ·have ek:k=L.length:=by omega
   obtain rfl:=HAll.out fun j hj => hzr j (by omega)
   have HN:=Lib.hid (show SM wr m (n + L.length) (plM fs (met ++ L))/\w.grownBy wr (some m) from ⟨by rw [ek,List.take_length] at hsm; exact hsm,hg⟩)
   clear hsm hg hzr ek
   go_wp2_with fail
   go_ret
   first | exact ⟨rfl,fun _ => HN.out.1,HN.out.2⟩ | exact ⟨rfl,HN.out.1,HN.out.2⟩
set_option maxRecDepth 100000 in
set_option maxHeartbeats 8000000 in
theorem check_any (ps:List PE) (PA:Option Addr) (pc:Nat) (fs:List GenL.Fd) (FA:Option Addr) (fc:Nat) (w:World) (hm:fs.length<=1048576) (hf:Flds w FA fs) (hz:∀ (k:Nat) (h:k < fs.length),fs[k].nm.size<=maxLen) (hp:Pgs w PA ps) (ho:PgsOk w ps) (hl:ps.length<=maxLen) (hlp:∀ e ∈ ps,e.fs.length<=1048576) (hT:Tab w) (hcap:ps.length<=pc/\pc<=maxLen) :
  Calls Tryz.prog 28 #[.slice PA ps.length pc,.slice FA fs.length fc] w fun r w' => r=.returned (.int .i64 (checkP fs ps))/\Below w.heap.size w w':=by
 obtain ⟨R,hR⟩:∃ R,checkP fs ps=R:=⟨_,rfl⟩
 rw [hR]
 unfold checkP at hR
 by_cases h0:ps.length=0 ∨ 6 < ps.length
 ·rw [if_pos h0] at hR
  subst hR
  by_cases h1:ps.length=0
  ·rw [h1]
   clear hf hz hp ho hl hlp hT hcap h0 h1
   go_enter Tryz.func28,Tryz.ntmps28
   go_wp2_with fail
   go_ret
   exact ⟨rfl,Below.refl _ _⟩
  ·have t1:((ps.length:Int) == 0)=false:=beq_eq_false_iff_ne.2 (by omega)
   have t2:(6:Int) < (ps.length:Int):=by omega
   clear hf hz hp ho hl hlp hT hcap h0 h1
   go_enter Tryz.func28,Tryz.ntmps28
   go_wp2_with fail
   go_ret
   exact ⟨rfl,Below.refl _ _⟩
 ·rw [if_neg h0] at hR
  have hn6:1<=ps.length/\ps.length<=6:=by omega
  have t1:((ps.length:Int) == 0)=false:=beq_eq_false_iff_ne.2 (by omega)
  have t2:¬ (6:Int) < (ps.length:Int):=by omega
  have hstop:∀ k,k < ps.length->(∀ j,j < k->pageE fs ps j=0)->pageE fs ps k ≠ 0->R=pageE fs ps k:=fun k hk h h0 => by rw [← hR]; exact scan_stop ps.length k hk h h0
  have hall:(∀ j,j < ps.length->pageE fs ps j=0)->R=0:=fun h => by rw [← hR]; exact scan_zero ps.length h
  have hun:=unplaced_any fs FA fc w hm hf hz
  have HUn:=Lib.hid hun
  have HStop:=Lib.hid hstop
  have HAll:=Lib.hid hall
  have HF:=Lib.hid hf
  have HP:=Lib.hid hp
  have HO:=Lib.hid ho
  have HLp:=Lib.hid hlp
  have HT:=Lib.hid hT
  clear hun hstop hall hf hz hp ho hlp hT hR h0
  go_enter Tryz.func28,Tryz.ntmps28
  go_wp2_with fail
  refine HUn.out.mono ?_; rintro r w1 ⟨m,rfl,hwm,hs1,hb1⟩
  have HS1:=Lib.hid hs1
  have HB1:=Lib.hid hb1
  clear hs1 hb1
  go_wp2_with fail
  go_loopw [6,7,8,9,10,11,12,25] (fun _ _ _ _ _ _ _ ii wr => ∃ k nn:Nat,ii=.int .i64 k/\k<=ps.length/\nn<=fs.length + k * 1048576/\(∀ j,j < k->pageE fs ps j=0)/\SM wr m nn (plM fs (metP ps k))/\Below w.heap.size w wr) (fun _ _ _ _ _ _ _ ii _ => ps.length - (intOf ii).toNat)
  case atStart => exact ⟨0,fs.length,rfl,Nat.zero_le _,by omega,fun j hj => absurd hj (by omega),HS1.out,HB1.out⟩
  case round =>
   obtain ⟨k,nn,rfl,hk,hnn,hzr,hsm,hb⟩:=hrel
   by_cases hlt:k < ps.length
   ·obtain ⟨ad,rfl,hat⟩:=HP.out.below hb k hlt
    have hoe:=(HO.out ps[k] (List.getElem_mem hlt)).below hb
    have hle:=HLp.out ps[k] (List.getElem_mem hlt)
    have hpe:pageE fs ps k=(if LexB.nameE ps[k].nm.data.toList=0 then (if pAt ps ps[k].nm < k then 6 else if scan (nameE fs (metP ps k) ps[k].fs) ps[k].fs.length=0 then (if bareB ps[k].x.d ps[k].m=true then 0 else fitsT (fts fs) ps[k].x 2) else scan (nameE fs (metP ps k) ps[k].fs) ps[k].fs.length) else LexB.nameE ps[k].nm.data.toList):=by unfold pageE; rw [dif_pos hlt]
    have hstop:=HStop.out k hlt hzr
    have hnext:pageE fs ps k=0->∀ j,j < k + 1->pageE fs ps j=0:=fun e j hj => by
     by_cases h:j=k
     ·subst h; exact e
     ·exact hzr j (by omega)
    have hms:=metP_succ ps k hlt
    obtain ⟨e,hek⟩:∃ e,ps[k]=e:=⟨_,rfl⟩
    rw [hek] at hat hoe hle hpe hms
    obtain ⟨q0,q1,q2,q3,q4,q5,q6,q7⟩:=hat
    obtain ⟨W5,hW5⟩:∃ V,wr.alloc (.cells #[.string e.nm,.slice e.F e.fs.length e.fc,.int .i64 e.x.d.op,.int .i64 e.x.d.k,.int .i64 e.x.d.n,.string e.x.d.s,.string e.x.d.nm,.slice e.B e.m e.c] 50)=V:=⟨_,rfl⟩
    obtain ⟨B9,hB9⟩:∃ B,wr.heap.size=B:=⟨_,rfl⟩
    have hb5:=b_new wr (pgBox e)
    have hcell:=pg_cells wr e
    unfold pgBox at hb5 hcell
    rw [hW5,hB9] at hcell
    rw [hW5] at hb5
    have hnm:=LexB.name_any e.nm W5 hoe.nm
    have hfi:∀ V,Below W5.heap.size W5 V->Calls Tryz.prog 50 #[.slice (some ad) k pc,.string e.nm] V fun r w' => r=.returned (.tuple #[.int .i64 (if pAt (ps.take k) e.nm < k then (pAt (ps.take k) e.nm:Int) else 0),.int .i64 (if pAt ps e.nm < k then 0 else 5)])/\Below V.heap.size V w':=fun V hV => by
     have hlk:(ps.take k).length=k:=by rw [List.length_take]; omega
     have:=PgA.find_any e.nm (ps.take k) (some ad) pc V (by omega) ((HP.out.below (b_trans hb (b_trans hb5 hV))).take k)
     rw [hlk] at this
     unfold PgA.firstE at this
     have e9:(pAt (ps.take k) e.nm < k)=(pAt ps e.nm < k):=propext (fi_take (by omega))
     simp only [e9] at this ⊢
     exact this
    generalize (if pAt (ps.take k) e.nm < k then (pAt (ps.take k) e.nm:Int) else 0)=zz at hfi
    have hne2:∀ V,Below W5.heap.size W5 V->Calls Tryz.prog 30 _ V _:=fun V hV => never_any e V
    have hft:∀ V,Below W5.heap.size W5 V->Calls Tryz.prog 52 #[.agg #[.int .i64 e.x.d.op,.int .i64 e.x.d.k,.int .i64 e.x.d.n,.string e.x.d.s,.string e.x.d.nm,.slice e.B e.m e.c],.slice FA fs.length fc,.int .i64 2] V fun r w' => r=.returned (.int .i64 (fitsT (fts fs) e.x 2))/\Below V.heap.size V w':=fun V hV => fits_any e.x fs FA fc 2 e.x.d e.B e.m e.c V (by omega) (hoe.skip.below (b_trans hb5 hV)) (HF.out.below (b_trans hb (b_trans hb5 hV))) (HT.out.below (b_trans hb (b_trans hb5 hV)))
    have hpl:∀ V,Below W5.heap.size W5 V->Calls Tryz.prog 51 #[.slice e.F e.fs.length e.fc,.map (some m)] V fun r w' => r=.returned (.int .i64 (scan (nameE fs (metP ps k) e.fs) e.fs.length))/\(scan (nameE fs (metP ps k) e.fs) e.fs.length=0->SM w' m (nn + e.fs.length) (plM fs (metP ps k ++ e.fs)))/\V.grownBy w' (some m):=fun V hV => by
     refine place_any fs (metP ps k) e.fs e.F e.fc m nn V hle (hoe.row.below (b_trans hb5 hV)) hoe.txt (hsm.below (b_trans hb5 hV)) (by have:k * 1048576<=6 * 1048576:=Nat.mul_le_mul_right _ (by omega); unfold maxLen; omega) (fun a ha h0 he => ?_)
     obtain ⟨a2,ea,hc2⟩:=(HO.out ps[k] (List.getElem_mem hlt)).row 0 (by rw [hek]; exact h0)
     rw [hek,ha] at ea
     injection ea with ea
     subst ea
     have:=cell_lt' hc2
     rw [block_of_add] at this
     omega
    have hblk:∀ V,Below W5.heap.size W5 V->V.heap[B9]?=some (.cells #[.string e.nm,.slice e.F e.fs.length e.fc,.int .i64 e.x.d.op,.int .i64 e.x.d.k,.int .i64 e.x.d.n,.string e.x.d.s,.string e.x.d.nm,.slice e.B e.m e.c] 50 (0,0)):=fun V hV => by
     have h1:=World.alloc_heap_new wr (.cells #[.string e.nm,.slice e.F e.fs.length e.fc,.int .i64 e.x.d.op,.int .i64 e.x.d.k,.int .i64 e.x.d.n,.string e.x.d.s,.string e.x.d.nm,.slice e.B e.m e.c] 50)
     rw [hW5,hB9] at h1
     exact (hV.block _ (Array.getElem?_eq_some_iff.1 h1).1).trans h1
    have hcells:∀ V:World,V.heap[B9]?=some (.cells #[.string e.nm,.slice e.F e.fs.length e.fc,.int .i64 e.x.d.op,.int .i64 e.x.d.k,.int .i64 e.x.d.n,.string e.x.d.s,.string e.x.d.nm,.slice e.B e.m e.c] 50 (0,0))->V.cell? ⟨B9,0,none⟩=some (.string e.nm)/\V.cell? ⟨B9,1,none⟩=some (.slice e.F e.fs.length e.fc)/\V.cell? ⟨B9,2,none⟩=some (.int .i64 e.x.d.op)/\V.cell? ⟨B9,3,none⟩=some (.int .i64 e.x.d.k)/\V.cell? ⟨B9,4,none⟩=some (.int .i64 e.x.d.n)/\V.cell? ⟨B9,5,none⟩=some (.string e.x.d.s)/\V.cell? ⟨B9,6,none⟩=some (.string e.x.d.nm)/\V.cell? ⟨B9,7,none⟩=some (.slice e.B e.m e.c):=fun V h => ⟨by simp [World.cell?,h],by simp [World.cell?,h],by simp [World.cell?,h],by simp [World.cell?,h],by simp [World.cell?,h],by simp [World.cell?,h],by simp [World.cell?,h],by simp [World.cell?,h]⟩
    have hBm:m < B9:=by rw [← hB9]; exact hsm.lt
    have hbw5:=b_trans hb hb5
    have hskip:∀ V,Below w.heap.size w V->Calls Tryz.prog 52 #[.agg #[.int .i64 e.x.d.op,.int .i64 e.x.d.k,.int .i64 e.x.d.n,.string e.x.d.s,.string e.x.d.nm,.slice e.B e.m e.c],.slice FA fs.length fc,.int .i64 2] V fun r w' => r=.returned (.int .i64 (fitsT (fts fs) e.x 2))/\Below V.heap.size V w':=fun V hV => fits_any e.x fs FA fc 2 e.x.d e.B e.m e.c V (by omega) (by have:=(HO.out ps[k] (List.getElem_mem hlt)).skip.below hV; rw [hek] at this; exact this) (HF.out.below hV) (HT.out.below hV)
    clear hft hne2
    obtain ⟨x0,x1,x2,x3,x4,x5,x6,x7⟩:=hcells W5 (hblk W5 (Below.refl _ _))
    obtain ⟨dup,hdup⟩:∃ d,d=(pAt ps e.nm < k):=⟨_,rfl⟩
    have HNm:=Lib.hid hnm
    have HFi:=Lib.hid hfi
    have HPl:=Lib.hid hpl
    have HSk:=Lib.hid hskip
    have HBlk:=Lib.hid hblk
    have HCells:=Lib.hid hcells
    have HBw5:=Lib.hid hbw5
    have HPe:=Lib.hid hpe
    have HStop2:=Lib.hid hstop
    have HNx:=Lib.hid hnext
    have HMs:=Lib.hid hms
    have HW5:=Lib.hid hW5
    have HB9:=Lib.hid hB9
    have HLe:=Lib.hid hle
    have hki:(k:Int)<=(pc:Int):=by omega
    have hk0:(0:Int)<=(k:Int):=by omega
    clear hnm hfi hpl hskip hblk hcells hbw5 hpe hstop hnext hms hW5 hB9 hoe hb hb5 hzr hsm hek hcell hle hdup
    generalize LexB.nameE e.nm.data.toList=ne at HNm HPe
    generalize scan (nameE fs (metP ps k) e.fs) e.fs.length=sc at HPl HPe
    generalize fitsT (fts fs) e.x 2=ft at HSk HPe
    by_cases h0:ne=0
    ·subst h0
     go_upto_region 7 with fail
     rw [HW5.out,HB9.out]
     go_wp2_with fail
     refine HNm.out.mono ?_; rintro r w6 ⟨rfl,rfl⟩
     have hbl:=Below.refl W5.heap.size W5
     have hnmc:∀ V,Below W5.heap.size W5 V->V.cell? ⟨B9,0,none⟩=some (.string e.nm):=fun V hV => (HCells.out V (HBlk.out V hV)).1
     have HNmc:=Lib.hid hnmc
     clear hnmc
     by_cases hd:pAt ps e.nm < k
     ·have h6:pageE fs ps k=6:=by first | rw [HPe.out,if_pos rfl,if_pos hd] | rw [HPe.out,if_pos trivial,if_pos hd]
      obtain rfl:=(HStop2.out (by rw [h6]; decide)).trans h6
      simp only [if_pos hd] at HFi
      clear h6 hd HSk HPl HPe HNx HMs HStop2 HCells HBlk
      go_upto_region 10 with fail
      go_region_held3 (fun V => V.cell? ⟨B9,0,none⟩=some (.string e.nm)) (first | (with_reducible exact HNmc.out _ hbl) | (with_reducible exact HNmc.out _ (b_drew hbl))) ((go_at_call 50; (with_reducible refine (HFi.out _ ?_).mono ?_); (first | exact hbl | exact b_drew hbl); rintro r w7 ⟨rfl,hb7⟩; have hbl:Below W5.heap.size W5 w7:=(by first | exact hbl.trans (hb7.mono hbl.size) | exact (b_drew hbl).trans (hb7.mono hbl.size)); clear hb7))
      all_goals
       have HB7:=Lib.hid (b_trans HBw5.out hbl)
       go_wp2_with fail
       go_ret
       exact ⟨rfl,HB7.out⟩
     ·have hpe2:pageE fs ps k=(if sc=0 then (if bareB e.x.d e.m=true then 0 else ft) else sc):=by first | rw [HPe.out,if_pos rfl,if_neg hd] | rw [HPe.out,if_pos trivial,if_neg hd]
      simp only [if_neg hd] at HFi
      have HPe2:=Lib.hid hpe2
      clear hpe2 hd HPe
      go_upto_region 10 with fail
      go_region_held3 (fun V => V.cell? ⟨B9,0,none⟩=some (.string e.nm)) (first | (with_reducible exact HNmc.out _ hbl) | (with_reducible exact HNmc.out _ (b_drew hbl))) ((go_at_call 50; (with_reducible refine (HFi.out _ ?_).mono ?_); (first | exact hbl | exact b_drew hbl); rintro r w7 ⟨rfl,hb7⟩; have hbl:Below W5.heap.size W5 w7:=(by first | exact hbl.trans (hb7.mono hbl.size) | exact (b_drew hbl).trans (hb7.mono hbl.size)); clear hb7))
      all_goals
       have HB7:=Lib.hid (b_trans HBw5.out hbl)
       obtain ⟨x0,x1,x2,x3,x4,x5,x6,x7⟩:=HCells.out w7 (HBlk.out w7 hbl)
       have HPl7:=Lib.hid (HPl.out w7 hbl)
       have hblk7:=HBlk.out w7 hbl
       have HBlk7:=Lib.hid hblk7
       clear hblk7 hbl
       go_wp2_with fail
       refine HPl7.out.mono ?_; rintro r w8 ⟨rfl,hs8,hg8⟩
       have hbw8:Below w.heap.size w w8:=b_grown HB7.out hg8 HB7.out.size hwm
       have hblk8:=(hg8.block B9 (Array.getElem?_eq_some_iff.1 HBlk7.out).1 (fun e => by injection e with e; omega)).trans HBlk7.out
       have HS8:=Lib.hid hs8
       have HBw8:=Lib.hid hbw8
       have HBlk8:=Lib.hid hblk8
       clear hs8 hg8 hbw8 hblk8 x0 x1 x2 x3 x4 x5 x6 x7 HPl7
       by_cases h1:sc=0
       ·subst h1
        have hs8:SM w8 m (nn + e.fs.length) (plM fs (metP ps (k + 1))):=by
         rw [HMs.out]
         first | exact HS8.out rfl | exact HS8.out trivial | exact HS8.out
        have hnn2:nn + e.fs.length<=fs.length + (k + 1) * 1048576:=by have:=HLe.out; rw [Nat.add_mul,Nat.one_mul]; omega
        have hpe3:pageE fs ps k=(if bareB e.x.d e.m=true then 0 else ft):=by first | rw [HPe2.out,if_pos rfl] | rw [HPe2.out,if_pos trivial]
        obtain ⟨x0,x1,x2,x3,x4,x5,x6,x7⟩:=HCells.out w8 HBlk8.out
        have hnv:=never_any e w8
        generalize bareB e.x.d e.m=bb at hpe3 hnv
        have HNv:=Lib.hid hnv
        have HPe3:=Lib.hid hpe3
        have HS9:=Lib.hid hs8
        have HNn:=Lib.hid hnn2
        clear hs8 hnn2 hpe3 hnv HS8 HPe2
        go_wp2_with fail
        refine HNv.out.mono ?_; rintro r w9 ⟨rfl,hb9⟩
        have hs9:=HS9.out.below hb9
        have hbw9:=b_trans HBw8.out hb9
        have hblk9:=(hb9.block B9 (Array.getElem?_eq_some_iff.1 HBlk8.out).1).trans HBlk8.out
        obtain ⟨x0,x1,x2,x3,x4,x5,x6,x7⟩:=HCells.out w9 hblk9
        have HS10:=Lib.hid hs9
        have HBw9:=Lib.hid hbw9
        clear hs9 hbw9 hblk9 hb9
        cases bb with
        | true =>
         have h6:pageE fs ps k=0:=by first | rw [HPe3.out,if_pos rfl] | rw [HPe3.out,if_pos trivial]
         have HN:=Lib.hid (HNx.out h6)
         clear h6
         go_wp2_with fail
         go_roundw
         case rel => exact ⟨k + 1,nn + e.fs.length,by go_num,by omega,HNn.out,HN.out,HS10.out,HBw9.out⟩
         case measure => simp [intOf]; omega
        | false =>
         have h6:pageE fs ps k=ft:=by rw [HPe3.out,if_neg (by simp)]
         have HSk9:=Lib.hid (HSk.out w9 HBw9.out)
         go_wp2_with fail
         refine HSk9.out.mono ?_; rintro r w10 ⟨rfl,hb10⟩
         have HB10:=Lib.hid (b_trans HBw9.out hb10)
         have HS11:=Lib.hid (HS10.out.below hb10)
         clear hb10 x0 x1 x2 x3 x4 x5 x6 x7
         by_cases h1:ft=0
         ·subst h1
          have HN:=Lib.hid (HNx.out h6)
          clear h6
          go_wp2_with fail
          go_roundw
          case rel => exact ⟨k + 1,nn + e.fs.length,by go_num,by omega,HNn.out,HN.out,HS11.out,HB10.out⟩
          case measure => simp [intOf]; omega
         ·obtain rfl:=(HStop2.out (by rw [h6]; exact h1)).trans h6
          have t3:(R != 0)=true:=bne_iff_ne.2 h1
          clear h6 h1
          go_wp2_with fail
          go_ret
          exact ⟨rfl,HB10.out⟩
       ·have h6:pageE fs ps k=sc:=by rw [HPe2.out,if_neg h1]
        obtain rfl:=(HStop2.out (by rw [h6]; exact h1)).trans h6
        have t3:(R != 0)=true:=bne_iff_ne.2 h1
        clear h6 h1
        go_wp2_with fail
        go_ret
        exact ⟨rfl,HBw8.out⟩
    ·have h6:pageE fs ps k=ne:=by rw [HPe.out,if_neg h0]
     obtain rfl:=(HStop2.out (by rw [h6]; exact h0)).trans h6
     have t3:(R != 0)=true:=bne_iff_ne.2 h0
     clear h6 h0
     go_upto_region 7 with fail
     rw [HW5.out,HB9.out]
     go_wp2_with fail
     refine HNm.out.mono ?_; rintro r w6 ⟨rfl,rfl⟩
     go_wp2_with fail
     go_ret
     exact ⟨rfl,HBw5.out⟩
   ·obtain rfl:=HAll.out fun j hj => hzr j (by omega)
    have HB:=Lib.hid hb
    clear hzr hsm hb
    go_wp2_with fail
    go_ret
    exact ⟨rfl,HB.out⟩
end PgB
namespace TxT
open Go.RowKit
open ValM LexM NumM ExM NmM ShowM PrM Ty Kit ExL ExP ExN ExC RawV Within RawL GenL FrmM FldP FldR FldC TyM PgM TxM TxR
set_option linter.unusedVariables false
def flE (e:FE):Fl:=⟨e.nm.data.toList,e.kind,e.ty,e.x⟩
def plE (e:PE):Pl × Bool:=(⟨e.nm.data.toList,e.fs.map fun s => s.data.toList,e.x⟩,!bareB e.x.d e.m)
def formL (es:List FE) (ps:List PE):List UInt8:=joinN (linesF (es.map flE) (ps.map plE))
theorem bare_no {x:Ex} {A:Option Addr} {m:Nat} {w:World} (hi:Is w x x.d A m) (h:bareB x.d m=true):x=noX:=by
 cases x with
 | mk d l =>
  have h1:=is_mk.1 hi
  have hm:m=l.length:=h1.2.1
  unfold bareB at h
  simp only [Bool.and_eq_true,decide_eq_true_eq] at h
  obtain ⟨⟨⟨⟨⟨a,b⟩,c⟩,e⟩,f⟩,g⟩:=h
  have hd:(Ex.mk d l).d=d:=rfl
  rw [hd] at a b c e f
  have hl:l=[]:=List.eq_nil_of_length_eq_zero (by omega)
  subst hl
  obtain ⟨o,k,n,s,nm⟩:=d
  simp only at a b c e f
  subst a b c e f
  rfl
theorem fl_ok {e:FE} {w:World} (hi:Is w e.x e.x.d e.B e.m) (h:rightE e.fd e.x=0):FlOk (flE e)/\(1 < e.kind->e.x.checkE=0):=by
 unfold rightE at h
 by_cases h1:LexB.nameE e.fd.nm.data.toList ≠ 0
 ·rw [if_pos h1] at h; exact absurd h h1
 ·rw [if_neg h1] at h
  have hn:LexB.nameE e.nm.data.toList=0:=Decidable.not_not.1 h1
  by_cases h2:isT e.fd.kind=true/\isT e.fd.ty=true
  ·rw [if_pos h2] at h
   have hk:1<=e.kind/\e.kind<=3:=isT_iff.1 h2.1
   have ht:1<=e.ty/\e.ty<=3:=isT_iff.1 h2.2
   have hnm:nmB e.nm.data.toList=true:=by rw [nmB_iff,decide_eq_true_eq]; exact hn
   by_cases h3:e.fd.kind=1
   ·rw [if_pos h3] at h
    by_cases h4:bareB e.fd.d e.fd.n=true
    ·exact ⟨⟨hnm,hk,ht,fun _ => bare_no hi h4⟩,fun hh => by have:e.kind=1:=h3; omega⟩
    ·rw [if_neg h4] at h; exact absurd h (by decide)
   ·rw [if_neg h3] at h
    exact ⟨⟨hnm,hk,ht,fun hh => absurd hh h3⟩,fun _ => h⟩
  ·rw [if_neg h2] at h; exact absurd h (by decide)
theorem scan_all {P:Nat->Int}:∀ (n:Nat),scan P n=0->∀ j,j < n->P j=0
 | 0,_,j,hj => by omega
 | n + 1,h,j,hj => by
  unfold scan at h
  by_cases h0:scan P n=0
  ·rw [if_pos h0] at h
   by_cases e:j=n
   ·subst e; exact h
   ·exact scan_all n h0 j (by omega)
  ·rw [if_neg h0] at h; exact absurd h h0
theorem fields_ok {es:List FE} {X:Nat->Ex} {w:World} (hX:∀ (i:Nat) (h:i < es.length),X i=es[i].x/\Is w es[i].x es[i].x.d es[i].B es[i].m) (h:checkF (es.map FE.fd) X=0) :
  ∀ (i:Nat) (hi:i < es.length),FlOk (flE es[i])/\(1 < es[i].kind->es[i].x.checkE=0):=fun i hi => by
 unfold checkF at h
 by_cases h1:14 < (es.map FE.fd).length
 ·rw [if_pos h1] at h; exact absurd h (by decide)
 ·rw [if_neg h1] at h
  by_cases h2:scan (ownE (es.map FE.fd) X) (es.map FE.fd).length=0
  ·have h3:=scan_all _ h2 i (by rw [List.length_map]; exact hi)
   unfold ownE at h3
   rw [dif_pos (by rw [List.length_map]; exact hi)] at h3
   obtain ⟨a,b⟩:=hX i hi
   have e1:(es.map FE.fd)[i]'(by rw [List.length_map]; exact hi)=es[i].fd:=by rw [List.getElem_map]
   rw [e1,a] at h3
   by_cases h4:rightE es[i].fd es[i].x=0
   ·exact fl_ok b h4
   ·rw [if_neg h4] at h3; exact absurd h3 h4
  ·rw [if_neg h2] at h; exact absurd h h2
theorem names_ok {fs:List GenL.Fd} {met L:List ByteArray} (hfs:∀ f ∈ fs,nmB f.nm.data.toList=true) (h:scan (nameE fs met L) L.length=0):∀ s ∈ L,nmB s.data.toList=true:=fun s hs => by
 obtain ⟨j,hj,rfl⟩:=List.getElem_of_mem hs
 have h3:=scan_all _ h j hj
 unfold nameE at h3
 rw [dif_pos hj] at h3
 by_cases h4:atF fs L[j] < fs.length
 ·have e:=(atF_at h4).1
  rw [← e]
  exact hfs _ (List.getElem_mem h4)
 ·rw [if_neg h4] at h3; exact absurd h3 (by decide)
theorem pages_ok {fs:List GenL.Fd} {ps:List PE} {w:World} (hfs:∀ f ∈ fs,nmB f.nm.data.toList=true) (hX:∀ e ∈ ps,Is w e.x e.x.d e.B e.m) (h:checkP fs ps=0) :
  ∀ (i:Nat) (hi:i < ps.length),PlOk (plE ps[i])/\((plE ps[i]).2=true->fitsT (fts fs) ps[i].x 2=0):=fun i hi => by
 unfold checkP at h
 by_cases h1:ps.length=0 ∨ 6 < ps.length
 ·rw [if_pos h1] at h; exact absurd h (by decide)
 ·rw [if_neg h1] at h
  have h3:=scan_all _ h i hi
  unfold pageE at h3
  rw [dif_pos hi] at h3
  by_cases h4:LexB.nameE ps[i].nm.data.toList=0
  ·rw [if_pos h4] at h3
   by_cases h5:pAt ps ps[i].nm < i
   ·rw [if_pos h5] at h3; exact absurd h3 (by decide)
   ·rw [if_neg h5] at h3
    by_cases h6:scan (nameE fs (metP ps i) ps[i].fs) ps[i].fs.length=0
    ·rw [if_pos h6] at h3
     refine ⟨⟨by show nmB ps[i].nm.data.toList=true; rw [nmB_iff,decide_eq_true_eq]; exact h4,fun s hs => ?_,fun hb => ?_⟩,fun hb => ?_⟩
     ·obtain ⟨t,ht,rfl⟩:=List.mem_map.1 hs
      exact names_ok hfs h6 t ht
     ·have hb':bareB ps[i].x.d ps[i].m=true:=by
       have:(!bareB ps[i].x.d ps[i].m)=false:=hb
       simpa using this
      exact bare_no (hX _ (List.getElem_mem hi)) hb'
     ·have hb':bareB ps[i].x.d ps[i].m ≠ true:=by
       have:(!bareB ps[i].x.d ps[i].m)=true:=hb
       simpa using this
      rw [if_neg hb'] at h3
      exact h3
    ·rw [if_neg h6] at h3; exact absurd h3 h6
  ·rw [if_neg h4] at h3; exact absurd h3 h4
end TxT
namespace TxR
open ValM LexM ExM ShowM PrM TxM
set_option linter.unusedVariables false
theorem line_flE {pf:List UInt8->Ex × Int} {f:Fl} {pg:Bool} {e:Int} (h:FlOk f) (hk:1 < f.k) (he:e ≠ 0) (hp:(pf (Ex.txt f.x)).2=e):rdLine pf pg (flL f)=(e,none):=by
 unfold rdLine flL
 rw [line_field _ h.nm h.k h.t,if_pos hk]
 simp only
 rw [if_neg (by rw [hp]; exact he),hp]
theorem line_plE {pf:List UInt8->Ex × Int} {p:Pl × Bool} {pg:Bool} {e:Int} (h:PlOk p) (hk:p.2=true) (he:e ≠ 0) (hp:(pf (Ex.txt p.1.x)).2=e):rdLine pf pg (plL p)=(e,none):=by
 obtain ⟨⟨nm,fs,x⟩,b⟩:=p
 unfold rdLine plL
 rw [line_page _ h.nm h.fs]
 simp only at hk
 subst hk
 rw [if_pos rfl]
 simp only at hp ⊢
 rw [if_neg (by rw [hp]; exact he),hp]
def Fine (pf:List UInt8->Ex × Int) (x:Ex):Prop:=pf (Ex.txt x)=(x,0)
def Long (pf:List UInt8->Ex × Int) (x:Ex):Prop:=(pf (Ex.txt x)).2=1
theorem fields_fl {pf:List UInt8->Ex × Int}:∀ (F G:List Fl) (i:Nat) (ls:List (List UInt8)),(∀ f ∈ F,FlOk f)->(∀ f ∈ F,1 < f.k->Fine pf f.x ∨ Long pf f.x) →
  (∀ f ∈ F,1 < f.k->Fine pf f.x) ∨ (rdFrom pf i (G,[]) (F.map flL ++ ls)).1.2=1
 | [],G,i,ls,_,_ => .inl (fun f hf => by cases hf)
 | f :: F,G,i,ls,h,hp => by
  by_cases hk:1 < f.k
  ·rcases hp f (by simp) hk with hf | hf
   ·have:=fields_fl F (G ++ [f]) (i + 1) ls (fun g hg => h g (by simp [hg])) (fun g hg => hp g (by simp [hg]))
    rcases this with h1 | h1
    ·refine .inl fun g hg hgk => ?_
     rcases List.mem_cons.1 hg with rfl | hg
     ·exact hf
     ·exact h1 g hg hgk
    ·refine .inr ?_
     rw [List.map_cons,List.cons_append,rd_ok (o:=some (.inl f)) (line_fl (h f (by simp)) (fun _ => hf))]
     exact h1
   ·refine .inr ?_
    rw [List.map_cons,List.cons_append,rd_bad (e:=1) (o:=none) (line_flE (h f (by simp)) hk (by decide) hf) (by decide)]
  ·have:=fields_fl F (G ++ [f]) (i + 1) ls (fun g hg => h g (by simp [hg])) (fun g hg => hp g (by simp [hg]))
   rcases this with h1 | h1
   ·refine .inl fun g hg hgk => ?_
    rcases List.mem_cons.1 hg with rfl | hg
    ·exact absurd hgk hk
    ·exact h1 g hg hgk
   ·refine .inr ?_
    rw [List.map_cons,List.cons_append,rd_ok (o:=some (.inl f)) (line_fl (h f (by simp)) (fun hh => absurd hh hk))]
    exact h1
theorem pages_fl {pf:List UInt8->Ex × Int}:∀ (P:List (Pl × Bool)) (F:List Fl) (G:List Pl) (i:Nat) (ls:List (List UInt8)),(∀ p ∈ P,PlOk p)->(∀ p ∈ P,p.2=true->Fine pf p.1.x ∨ Long pf p.1.x) →
  (∀ p ∈ P,p.2=true->Fine pf p.1.x) ∨ (rdFrom pf i (F,G) (P.map plL ++ ls)).1.2=1
 | [],F,G,i,ls,_,_ => .inl (fun f hf => by cases hf)
 | p :: P,F,G,i,ls,h,hp => by
  by_cases hk:p.2=true
  ·rcases hp p (by simp) hk with hf | hf
   ·have:=pages_fl P F (G ++ [p.1]) (i + 1) ls (fun g hg => h g (by simp [hg])) (fun g hg => hp g (by simp [hg]))
    rcases this with h1 | h1
    ·refine .inl fun g hg hgk => ?_
     rcases List.mem_cons.1 hg with rfl | hg
     ·exact hf
     ·exact h1 g hg hgk
    ·refine .inr ?_
     rw [List.map_cons,List.cons_append,rd_ok (o:=some (.inr p.1)) (line_pl (h p (by simp)) (fun _ => hf))]
     exact h1
   ·refine .inr ?_
    rw [List.map_cons,List.cons_append,rd_bad (e:=1) (o:=none) (line_plE (h p (by simp)) hk (by decide) hf) (by decide)]
  ·have:=pages_fl P F (G ++ [p.1]) (i + 1) ls (fun g hg => h g (by simp [hg])) (fun g hg => hp g (by simp [hg]))
   rcases this with h1 | h1
   ·refine .inl fun g hg hgk => ?_
    rcases List.mem_cons.1 hg with rfl | hg
    ·exact absurd hgk hk
    ·exact h1 g hg hgk
   ·refine .inr ?_
    rw [List.map_cons,List.cons_append,rd_ok (o:=some (.inr p.1)) (line_pl (h p (by simp)) (fun hh => absurd hh hk))]
    exact h1
theorem rd_form_fl {pf:List UInt8->Ex × Int} (F:List Fl) (P:List (Pl × Bool)) (h:∀ f ∈ F,FlOk f) (hp:∀ p ∈ P,PlOk p) (hF:∀ f ∈ F,1 < f.k->Fine pf f.x ∨ Long pf f.x) (hP:∀ p ∈ P,p.2=true->Fine pf p.1.x ∨ Long pf p.1.x) :
  ((∀ f ∈ F,1 < f.k->Fine pf f.x)/\(∀ p ∈ P,p.2=true->Fine pf p.1.x)/\rdAll pf (linesF F P)=((0,0),(F,P.map (·.1)))) ∨ (rdAll pf (linesF F P)).1.2=1:=by
 rcases fields_fl (pf:=pf) F [] 0 (P.map plL) h hF with h1 | h1
 ·have e:=rd_fields (pf:=pf) F [] 0 (P.map plL) h h1
  rcases pages_fl (pf:=pf) P ([] ++ F) [] (0 + F.length) [] hp hP with h2 | h2
  ·exact .inl ⟨h1,h2,rd_form F P h hp h1 h2⟩
  ·refine .inr ?_
   unfold rdAll linesF
   rw [e]
   rw [List.append_nil] at h2
   exact h2
 ·exact .inr h1
theorem rd_any_bad {pf:List UInt8->Ex × Int}:∀ (ls:List (List UInt8)) (i:Nat) (r:List Fl × List Pl) (l:List UInt8),l ∈ ls->(∀ pg,(rdLine pf pg l).1 ≠ 0)->(rdFrom pf i r ls).1.2 ≠ 0
 | [],_,_,_,h,_ => by cases h
 | a :: ls,i,r,l,h,hb => by
  by_cases h0:(rdLine pf (decide (r.2 ≠ [])) a).1=0
  ·rw [rd_ok (o:=(rdLine pf (decide (r.2 ≠ [])) a).2) (Prod.ext h0 rfl)]
   rcases List.mem_cons.1 h with rfl | h
   ·exact absurd h0 (hb _)
   ·exact rd_any_bad ls (i + 1) _ l h hb
  ·rw [rd_bad (e:=(rdLine pf (decide (r.2 ≠ [])) a).1) (o:=(rdLine pf (decide (r.2 ≠ [])) a).2) rfl h0]
   exact h0
theorem fl_len {f:Fl} (hk:1 < f.k):(Ex.txt f.x).length<=(flL f).length:=by
 unfold flL fieldL
 rw [if_pos hk]
 simp
 omega
theorem pl_len {p:Pl × Bool} (hk:p.2=true):(Ex.txt p.1.x).length<=(plL p).length:=by
 unfold plL pageL
 rw [if_pos hk]
 unfold skL
 simp
 omega
end TxR
namespace TxT
open Go.RowKit
open ValM LexM NumM ExM NmM ShowM PrM Ty Kit ExL ExP ExN ExC RawV Within RawL GenL FrmM FldP FldR FldC TyM PgM TxM TxR
set_option linter.unusedVariables false
theorem bytes_eq {s t:ByteArray} (h:s.data.toList=t.data.toList):s=t:=by
 cases s; cases t; congr; exact Array.toList_inj.1 h
def FIs (w:World) (es:List FE):Prop:=∀ (i:Nat) (h:i < es.length),Is w es[i].x es[i].x.d es[i].B es[i].m
def PIs' (w:World) (ps:List PE):Prop:=∀ (i:Nat) (h:i < ps.length),Is w ps[i].x ps[i].x.d ps[i].B ps[i].m
theorem m_same {w w':World} {x:Ex} {A B:Option Addr} {m n:Nat} (h:Is w x x.d A m) (h':Is w' x x.d B n):m=n:=by
 cases x with
 | mk d l => exact (is_mk.1 h).2.1.trans (is_mk.1 h').2.1.symm
theorem fl_same {e e':FE} (h:flE e=flE e'):e.nm=e'.nm/\e.kind=e'.kind/\e.ty=e'.ty/\e.x=e'.x:=by
 unfold flE at h
 injection h with a b c d
 exact ⟨bytes_eq a,b,c,d⟩
theorem right_same {e e':FE} {w w':World} (h:flE e=flE e') (hi:Is w e.x e.x.d e.B e.m) (hi':Is w' e'.x e'.x.d e'.B e'.m):rightE e.fd e.x=rightE e'.fd e'.x:=by
 obtain ⟨a,b,c,d⟩:=fl_same h
 rw [← d] at hi'
 have hm:=m_same hi hi'
 unfold rightE FE.fd
 simp only
 rw [a,b,c,d,hm]
theorem src_same {fs:List GenL.Fd} {e e':FE} (h:flE e=flE e'):srcE fs e.fd e.x=srcE fs e'.fd e'.x:=by
 obtain ⟨a,b,c,d⟩:=fl_same h
 unfold srcE FE.fd
 simp only
 rw [b,c,d]
theorem at_same:∀ {es es':List FE},es.map flE=es'.map flE->∀ s,atF (es.map FE.fd) s=atF (es'.map FE.fd) s
 | [],[],_,_ => rfl
 | [],_ :: _,h,_ => by cases h
 | _ :: _,[],h,_ => by cases h
 | e :: es,e' :: es',h,s => by
  rw [List.map_cons,List.map_cons] at h
  injection h with h1 h2
  rw [List.map_cons,List.map_cons]
  unfold atF
  have:e.fd.nm=e'.fd.nm:=(fl_same h1).1
  rw [this,at_same h2 s]
theorem fts_same:∀ {es es':List FE},es.map flE=es'.map flE->fts (es.map FE.fd)=fts (es'.map FE.fd)
 | [],[],_ => rfl
 | [],_ :: _,h => by cases h
 | _ :: _,[],h => by cases h
 | e :: es,e' :: es',h => by
  rw [List.map_cons,List.map_cons] at h
  injection h with h1 h2
  have:=fts_same h2
  unfold fts at this ⊢
  simp only [List.map_cons]
  rw [this]
  have e1:e.fd.nm=e'.fd.nm:=(fl_same h1).1
  have e2:e.fd.ty=e'.fd.ty:=(fl_same h1).2.2.1
  rw [e1,e2]
theorem len_same {es es':List FE} (h:es.map flE=es'.map flE):es.length=es'.length:=by
 have:=congrArg List.length h
 simpa using this
theorem at_fl {es es':List FE} (h:es.map flE=es'.map flE) (i:Nat) (hi:i < es.length) (hi':i < es'.length):flE es[i]=flE es'[i]:=by
 have:=congrArg (fun l => l[i]?) h
 simpa [hi,hi'] using this
theorem scan_congr {P Q:Nat->Int}:∀ (n:Nat),(∀ j,j < n->P j=Q j)->scan P n=scan Q n
 | 0,_ => rfl
 | n + 1,h => by
  unfold scan
  rw [scan_congr n fun j hj => h j (by omega),h n (by omega)]
def Srcs (X:Nat->Ex) (es:List FE):Prop:=∀ (i:Nat) (h:i < es.length),X i=es[i].x
theorem own_at {es:List FE} {X:Nat->Ex} (hX:Srcs X es) (k:Nat) (hk:k < es.length):ownE (es.map FE.fd) X k=if rightE es[k].fd es[k].x=0 then (if atF (es.map FE.fd) es[k].nm < k then 6 else 0) else rightE es[k].fd es[k].x:=by
 unfold ownE
 rw [dif_pos (by rw [List.length_map]; exact hk)]
 have e1:(es.map FE.fd)[k]'(by rw [List.length_map]; exact hk)=es[k].fd:=by rw [List.getElem_map]
 rw [e1,hX k hk]
 rfl
theorem typ_at {es:List FE} {X:Nat->Ex} (hX:Srcs X es) (k:Nat) (hk:k < es.length):typE (es.map FE.fd) X k=srcE (es.map FE.fd) es[k].fd es[k].x:=by
 unfold typE
 rw [dif_pos (by rw [List.length_map]; exact hk)]
 have e1:(es.map FE.fd)[k]'(by rw [List.length_map]; exact hk)=es[k].fd:=by rw [List.getElem_map]
 rw [e1,hX k hk]
theorem srcE_fts {fs fs':List GenL.Fd} (h:fts fs=fts fs') (f:GenL.Fd) (x:Ex):srcE fs f x=srcE fs' f x:=by unfold srcE; rw [h]
theorem check_same {es es':List FE} {X X':Nat->Ex} {w w':World} (h:es.map flE=es'.map flE) (hi:FIs w es) (hi':FIs w' es') (hX:Srcs X es) (hX':Srcs X' es'):checkF (es.map FE.fd) X=checkF (es'.map FE.fd) X':=by
 have hl:=len_same h
 have e1:scan (ownE (es.map FE.fd) X) (es.map FE.fd).length=scan (ownE (es'.map FE.fd) X') (es'.map FE.fd).length:=by
  rw [List.length_map,List.length_map,← hl]
  refine scan_congr _ fun j hj => ?_
  rw [own_at hX j hj,own_at hX' j (by omega),right_same (at_fl h j hj (by omega)) (hi j hj) (hi' j (by omega)),at_same h,(fl_same (at_fl h j hj (by omega))).1]
 have e2:scan (typE (es.map FE.fd) X) (es.map FE.fd).length=scan (typE (es'.map FE.fd) X') (es'.map FE.fd).length:=by
  rw [List.length_map,List.length_map,← hl]
  refine scan_congr _ fun j hj => ?_
  rw [typ_at hX j hj,typ_at hX' j (by omega),src_same (at_fl h j hj (by omega)),srcE_fts (fts_same h)]
 unfold checkF
 rw [e1,e2,List.length_map,List.length_map,hl]
theorem own_zero {es:List FE} {X:Nat->Ex} (hX:Srcs X es) (h:checkF (es.map FE.fd) X=0):∀ (k:Nat) (hk:k < es.length),rightE es[k].fd es[k].x=0/\¬ atF (es.map FE.fd) es[k].nm < k:=fun k hk => by
 unfold checkF at h
 by_cases h1:14 < (es.map FE.fd).length
 ·rw [if_pos h1] at h; exact absurd h (by decide)
 ·rw [if_neg h1] at h
  by_cases h2:scan (ownE (es.map FE.fd) X) (es.map FE.fd).length=0
  ·have h3:=scan_all _ h2 k (by rw [List.length_map]; exact hk)
   rw [own_at hX k hk] at h3
   by_cases h4:rightE es[k].fd es[k].x=0
   ·rw [if_pos h4] at h3
    refine ⟨h4,fun h5 => ?_⟩
    rw [if_pos h5] at h3; exact absurd h3 (by decide)
   ·rw [if_neg h4] at h3; exact absurd h3 h4
  ·rw [if_neg h2] at h; exact absurd h h2
theorem nm_first:∀ (fs:List GenL.Fd) (s:ByteArray) (j:Nat) (hj:j < fs.length),fs[j].nm=s->atF fs s<=j
 | f :: l,s,0,_,h => by unfold atF; rw [if_pos (show f.nm=s from h)]; exact Nat.le_refl _
 | f :: l,s,j + 1,hj,h => by
  unfold atF
  split
  ·exact Nat.zero_le _
  ·exact Nat.succ_le_succ (nm_first l s j (by simpa using hj) h)
theorem nm_inj {es:List FE} {X:Nat->Ex} (hX:Srcs X es) (h:checkF (es.map FE.fd) X=0) (j k:Nat) (hj:j < k) (hk:k < es.length):es[j].nm ≠ es[k].nm:=fun e => by
 have h2:=(own_zero hX h k hk).2
 have:=nm_first (es.map FE.fd) es[k].nm j (by rw [List.length_map]; omega) (by rw [List.getElem_map]; exact e)
 omega
def twice {α:Type} (l:List α) (k:Nat) (h:k < l.length):List α:=l.take k ++ (l[k] :: l.drop k)
theorem twice_len {α:Type} (l:List α) (k:Nat) (h:k < l.length):(twice l k h).length=l.length + 1:=by
 unfold twice; simp; omega
theorem twice_le {α:Type} (l:List α) (k:Nat) (h:k < l.length) (j:Nat) (hj:j<=k):(twice l k h)[j]?=l[j]?:=by
 unfold twice
 by_cases e:j < k
 ·rw [List.getElem?_append_left (by simp; omega),List.getElem?_take_of_lt e]
 ·obtain rfl:j=k:=by omega
  rw [List.getElem?_append_right (by rw [List.length_take]; omega)]
  simp [List.length_take,Nat.min_eq_left (Nat.le_of_lt h),h]
theorem twice_next {α:Type} (l:List α) (k:Nat) (h:k < l.length):(twice l k h)[k + 1]?=l[k]?:=by
 unfold twice
 rw [List.getElem?_append_right (by rw [List.length_take]; omega)]
 simp [List.length_take,Nat.min_eq_left (Nat.le_of_lt h),show k + 1 - k=1 by omega,h]
theorem fl_le {es es':List FE} {k:Nat} {hk:k < (es.map flE).length} (h:es'.map flE=twice (es.map flE) k hk) (j:Nat) (hj:j<=k) (h1:j < es.length) (h2:j < es'.length):flE es'[j]=flE es[j]:=by
 have:(es'.map flE)[j]?=_:=congrArg (fun l => l[j]?) h
 rw [twice_le _ _ _ j hj] at this
 simpa [h1,h2] using this
theorem fl_next {es es':List FE} {k:Nat} {hk:k < (es.map flE).length} (h:es'.map flE=twice (es.map flE) k hk) (h1:k < es.length) (h2:k + 1 < es'.length):flE es'[k + 1]=flE es[k]:=by
 have:(es'.map flE)[k + 1]?=_:=congrArg (fun l => l[k + 1]?) h
 rw [twice_next] at this
 simpa [h1,h2] using this
theorem check_twice {es es':List FE} {X X':Nat->Ex} {w w':World} {k:Nat} {hk:k < (es.map flE).length} (h:es'.map flE=twice (es.map flE) k hk) (hi:FIs w es) (hi':FIs w' es') (hX:Srcs X es) (hX':Srcs X' es') (hn:es.length<=13) (h0:checkF (es.map FE.fd) X=0) :
  checkF (es'.map FE.fd) X'=6:=by
 have hl:es'.length=es.length + 1:=by
  have:=congrArg List.length h
  rw [twice_len] at this
  simpa using this
 have hk1:k < es.length:=by rw [List.length_map] at hk; exact hk
 have hnm:∀ j (hj:j<=k),es'[j].nm=es[j].nm:=fun j hj => (fl_same (fl_le h j hj (by omega) (by omega))).1
 have hj0:∀ j,j < k + 1->ownE (es'.map FE.fd) X' j=0:=fun j hj => by
  have hjl:j < es.length:=by omega
  rw [own_at hX' j (by omega),right_same (fl_le h j (by omega) hjl (by omega)) (hi' j (by omega)) (hi j hjl),(own_zero hX h0 j hjl).1,if_pos rfl]
  refine if_neg fun hlt => ?_
  have:=(atF_at (fs:=es'.map FE.fd) (s:=es'[j].nm) (by rw [List.length_map]; omega)).1
  rw [List.getElem_map] at this
  obtain ⟨q,hq⟩:∃ q,atF (es'.map FE.fd) es'[j].nm=q:=⟨_,rfl⟩
  simp only [hq] at this
  rw [hq] at hlt
  have h5:(es'[q]'(by omega)).nm=es'[j].nm:=this
  rw [hnm q (by omega),hnm j (by omega)] at h5
  exact nm_inj hX h0 q j hlt hjl h5
 have hj1:ownE (es'.map FE.fd) X' (k + 1)=6:=by
  rw [own_at hX' (k + 1) (by omega),right_same (fl_next h hk1 (by omega)) (hi' (k + 1) (by omega)) (hi k hk1),(own_zero hX h0 k hk1).1,if_pos rfl]
  refine if_pos ?_
  rw [Nat.lt_iff_add_one_le,Nat.add_le_add_iff_right]
  refine nm_first (es'.map FE.fd) es'[k + 1].nm k (by rw [List.length_map]; omega) ?_
  rw [List.getElem_map]
  show es'[k].nm=es'[k + 1].nm
  rw [hnm k (Nat.le_refl k),(fl_same (fl_next h hk1 (by omega))).1]
 have hs:scan (ownE (es'.map FE.fd) X') (es'.map FE.fd).length=6:=by
  rw [scan_stop _ (k + 1) (by rw [List.length_map]; omega) hj0 (by rw [hj1]; decide),hj1]
 unfold checkF
 rw [List.length_map,if_neg (by omega)]
 rw [List.length_map] at hs
 rw [hs,if_neg (by decide)]
end TxT
namespace TxT
open Go.RowKit
open ValM LexM NumM ExM NmM ShowM PrM Ty Kit ExL ExP ExN ExC RawV Within RawL GenL FrmM FldP FldR FldC TyM PgM TxM TxR
set_option linter.unusedVariables false
theorem bare_iff {x:Ex} {A:Option Addr} {m:Nat} {w:World} (hi:Is w x x.d A m):bareB x.d m=true ↔ x=noX:=by
 refine ⟨bare_no hi,fun h => ?_⟩
 subst h
 have:m=0:=(is_mk.1 (show Is w (.mk noX.d []) noX.d A m from hi)).2.1
 subst this
 rfl
theorem pl_of {e e':PE} {w w':World} (h:(plE e).1=(plE e').1) (hi:Is w e.x e.x.d e.B e.m) (hi':Is w' e'.x e'.x.d e'.B e'.m):plE e=plE e':=by
 have hx:e.x=e'.x:=congrArg Pl.x h
 refine Prod.ext h ?_
 show (!bareB e.x.d e.m)=!bareB e'.x.d e'.m
 have h1:=bare_iff hi
 have h2:=bare_iff hi'
 rw [← hx] at h2
 rw [hx] at h1 h2 ⊢
 by_cases hb:e'.x=noX
 ·rw [h1.2 hb,h2.2 hb]
 ·rw [Bool.eq_false_iff.2 fun q => hb (h1.1 q),Bool.eq_false_iff.2 fun q => hb (h2.1 q)]
theorem pls_of:∀ {ps ps':List PE} {w w':World},(ps.map fun e => (plE e).1)=(ps'.map fun e => (plE e).1)->PIs' w ps->PIs' w' ps'->ps.map plE=ps'.map plE
 | [],[],_,_,_,_,_ => rfl
 | [],_ :: _,_,_,h,_,_ => by cases h
 | _ :: _,[],_,_,h,_,_ => by cases h
 | e :: ps,e' :: ps',w,w',h,hi,hi' => by
  rw [List.map_cons,List.map_cons] at h
  injection h with h1 h2
  rw [List.map_cons,List.map_cons,pl_of h1 (hi 0 (by simp)) (hi' 0 (by simp)),pls_of h2 (fun i hi1 => hi (i + 1) (by simpa using hi1)) (fun i hi1 => hi' (i + 1) (by simpa using hi1))]
theorem map_bytes:∀ {l l':List ByteArray},(l.map fun s => s.data.toList)=(l'.map fun s => s.data.toList)->l=l'
 | [],[],_ => rfl
 | [],_ :: _,h => by cases h
 | _ :: _,[],h => by cases h
 | s :: l,t :: l',h => by
  rw [List.map_cons,List.map_cons] at h
  injection h with h1 h2
  rw [bytes_eq h1,map_bytes h2]
theorem pl_same {e e':PE} (h:plE e=plE e'):e.nm=e'.nm/\e.fs=e'.fs/\e.x=e'.x/\bareB e.x.d e.m=bareB e'.x.d e'.m:=by
 unfold plE at h
 injection h with h1 h2
 injection h1 with a b c
 refine ⟨bytes_eq a,map_bytes b,c,?_⟩
 have:(!bareB e.x.d e.m)=!bareB e'.x.d e'.m:=h2
 cases hx:bareB e.x.d e.m <;> cases hy:bareB e'.x.d e'.m <;> rw [hx,hy] at this <;> simp at this ⊢
theorem nameE_same {fs fs':List GenL.Fd} (hl:fs.length=fs'.length) (ha:∀ s,atF fs s=atF fs' s) (met L:List ByteArray) (j:Nat):nameE fs met L j=nameE fs' met L j:=by
 unfold nameE
 by_cases h:j < L.length
 ·rw [dif_pos h,dif_pos h,ha,hl]
 ·rw [dif_neg h,dif_neg h]
theorem page_congr {fs fs':List GenL.Fd} {ps ps':List PE} {k:Nat} (hl:fs.length=fs'.length) (ha:∀ s,atF fs s=atF fs' s) (ht:fts fs=fts fs') (h1:k < ps.length) (h2:k < ps'.length)
  (he:plE ps[k]=plE ps'[k]) (hp:pAt ps ps[k].nm < k ↔ pAt ps' ps'[k].nm < k) (hm:metP ps k=metP ps' k):pageE fs ps k=pageE fs' ps' k:=by
 obtain ⟨a,b,c,d⟩:=pl_same he
 unfold pageE
 rw [dif_pos h1,dif_pos h2]
 have hs:scan (nameE fs (metP ps k) ps[k].fs) ps[k].fs.length=scan (nameE fs' (metP ps' k) ps'[k].fs) ps'[k].fs.length:=by
  rw [← hm,← b]
  exact scan_congr _ fun j _ => nameE_same hl ha _ _ j
 rw [hs,d,c,ht]
 by_cases h3:pAt ps ps[k].nm < k
 ·rw [if_pos h3,if_pos (hp.1 h3),a]
 ·rw [if_neg h3,if_neg (fun q => h3 (hp.2 q)),a]
theorem pAt_first {ps:List PE} {s:ByteArray} {j:Nat} (hj:j < ps.length) (h:ps[j].nm=s):pAt ps s<=j:=by
 unfold pAt
 refine Nat.le_of_not_lt fun hlt => ?_
 have:=List.not_of_lt_findIdx hlt
 unfold nmP at this
 simp [h] at this
theorem pl_le {ps ps':List PE} {k:Nat} {hk:k < (ps.map plE).length} (h:ps'.map plE=twice (ps.map plE) k hk) (j:Nat) (hj:j<=k) (h1:j < ps.length) (h2:j < ps'.length):plE ps'[j]=plE ps[j]:=by
 have:(ps'.map plE)[j]?=_:=congrArg (fun l => l[j]?) h
 rw [twice_le _ _ _ j hj] at this
 simpa [h1,h2] using this
theorem pl_next {ps ps':List PE} {k:Nat} {hk:k < (ps.map plE).length} (h:ps'.map plE=twice (ps.map plE) k hk) (h1:k < ps.length) (h2:k + 1 < ps'.length):plE ps'[k + 1]=plE ps[k]:=by
 have:(ps'.map plE)[k + 1]?=_:=congrArg (fun l => l[k + 1]?) h
 rw [twice_next] at this
 simpa [h1,h2] using this
theorem page_zero {fs:List GenL.Fd} {ps:List PE} (h:checkP fs ps=0):(1<=ps.length/\ps.length<=6)/\∀ (k:Nat) (hk:k < ps.length),pageE fs ps k=0/\LexB.nameE ps[k].nm.data.toList=0/\¬ pAt ps ps[k].nm < k:=by
 unfold checkP at h
 by_cases h1:ps.length=0 ∨ 6 < ps.length
 ·rw [if_pos h1] at h; exact absurd h (by decide)
 ·rw [if_neg h1] at h
  refine ⟨by omega,fun k hk => ?_⟩
  have h3:=scan_all _ h k hk
  refine ⟨h3,?_⟩
  unfold pageE at h3
  rw [dif_pos hk] at h3
  by_cases h4:LexB.nameE ps[k].nm.data.toList=0
  ·rw [if_pos h4] at h3
   refine ⟨h4,fun h5 => ?_⟩
   rw [if_pos h5] at h3; exact absurd h3 (by decide)
  ·rw [if_neg h4] at h3; exact absurd h3 h4
theorem checkP_twice {es es':List FE} {ps ps':List PE} {k:Nat} {hk:k < (ps.map plE).length} (he:es.map flE=es'.map flE) (h:ps'.map plE=twice (ps.map plE) k hk) (hn:ps.length<=5) (h0:checkP (es.map FE.fd) ps=0) :
  checkP (es'.map FE.fd) ps'=6:=by
 have hl:ps'.length=ps.length + 1:=by
  have:=congrArg List.length h
  rw [twice_len] at this
  simpa using this
 have hk1:k < ps.length:=by rw [List.length_map] at hk; exact hk
 obtain ⟨hz,hz2⟩:=page_zero h0
 have hlf:(es'.map FE.fd).length=(es.map FE.fd).length:=by rw [List.length_map,List.length_map]; exact (len_same he).symm
 have htk:∀ j,j<=k->metP ps' j=metP ps j:=fun j hj => by
  unfold metP
  rw [List.map_take,List.map_take]
  refine congrArg List.flatten ?_
  refine List.ext_getElem? fun i => ?_
  by_cases hij:i < j
  ·rw [List.getElem?_take_of_lt hij,List.getElem?_take_of_lt hij,List.getElem?_map,List.getElem?_map,List.getElem?_eq_getElem (by omega),List.getElem?_eq_getElem (show i < ps.length by omega)]
   have:=(pl_same (pl_le h i (by omega) (by omega) (by omega))).2.1
   simp only [Option.map_some,this]
  ·rw [List.getElem?_eq_none (by simp; omega),List.getElem?_eq_none (by simp; omega)]
 have hj0:∀ j,j < k + 1->pageE (es'.map FE.fd) ps' j=0:=fun j hj => by
  have hjl:j < ps.length:=by omega
  rw [← (hz2 j hjl).1]
  refine page_congr hlf (fun s => (at_same he s).symm) (fts_same he).symm (by omega) hjl (pl_le h j (by omega) hjl (by omega)) ⟨fun hlt => ?_,fun hlt => absurd hlt (hz2 j hjl).2.2⟩ (htk j (by omega))
  exfalso
  have hq:pAt ps' ps'[j].nm < ps'.length:=by omega
  obtain ⟨q,hqe⟩:∃ q,pAt ps' ps'[j].nm=q:=⟨_,rfl⟩
  rw [hqe] at hlt hq
  have h5:ps'[q].nm=ps'[j].nm:=by
   have:=List.findIdx_getElem (xs:=ps') (p:=nmP ps'[j].nm) (w:=by show pAt ps' ps'[j].nm < _; rw [hqe]; exact hq)
   have e:List.findIdx (nmP ps'[j].nm) ps'=q:=hqe
   simp only [e] at this
   unfold nmP at this
   exact of_decide_eq_true this
  rw [(pl_same (pl_le h q (by omega) (by omega) (by omega))).1,(pl_same (pl_le h j (by omega) hjl (by omega))).1] at h5
  have:=pAt_first (ps:=ps) (s:=ps[j].nm) (by omega) h5
  exact (hz2 j hjl).2.2 (by omega)
 have hj1:pageE (es'.map FE.fd) ps' (k + 1)=6:=by
  have e:=pl_same (pl_next h hk1 (by omega))
  unfold pageE
  rw [dif_pos (by omega),e.1,if_pos (hz2 k hk1).2.1]
  refine if_pos ?_
  have:=pAt_first (ps:=ps') (s:=ps[k].nm) (j:=k) (by omega) (pl_same (pl_le h k (Nat.le_refl k) hk1 (by omega))).1
  omega
 unfold checkP
 rw [if_neg (by omega),scan_stop _ (k + 1) (by omega) hj0 (by rw [hj1]; decide),hj1]
end TxT
end Go.Proofs.YtjhhmdmmllblhaaGreatDoor
