/- Form: what these laws name of them. -/
import Derived.Laws.Tables
import Derived.Deep.MidRow
import Derived.Test.YtjhhmdmmllblhaaGreatDoorKt15
namespace Go.Proofs.YtjhhmdmmllblhaaGreatDoor
set_option linter.unusedVariables false
namespace Frm
open Go.RowKit
open ValM LexM NumM ExM Kit ExL ExP RawV Within RawL RawN GenL Gen GenE GenT GenV FrmM RegI
set_option linter.unusedVariables false
def nmObj:Obj:=.cells #[.string ⟨#[97]⟩,.string ⟨#[98]⟩,.string ⟨#[99]⟩,.string ⟨#[100,97,121]⟩,.string ⟨#[101,49]⟩,.string ⟨#[102,101,101]⟩,.string ⟨#[103,111,110,101]⟩,.string ⟨#[104,111,109,101]⟩,.string ⟨#[105,116,101,109]⟩,.string ⟨#[106,111,98]⟩] 9
set_option maxHeartbeats 1000000 in
theorem names_any (w:World):Calls Tryz.prog 16 #[] w fun e w' => e=.returned (.slice (some ⟨w.heap.size,0,none⟩) 10 10)/\w'=w.alloc nmObj:=by
 go_enter Tryz.func16,Tryz.ntmps16
 go_wp2
 go_ret
 exact ⟨rfl,rfl⟩
theorem nm_cell (w w':World) (k:Nat) (hk:k < 10) (hb:Below (w.alloc nmObj).heap.size (w.alloc nmObj) w'):w'.cell? ⟨w.heap.size,k,none⟩=some (.string (nmK k)):=by
 have h:w'.heap[w.heap.size]?=_:=(hb.block _ (by simp)).trans (World.alloc_heap_new w nmObj)
 unfold World.cell?
 rw [h]
 obtain rfl | rfl | rfl | rfl | rfl | rfl | rfl | rfl | rfl | rfl:k=0 ∨ k=1 ∨ k=2 ∨ k=3 ∨ k=4 ∨ k=5 ∨ k=6 ∨ k=7 ∨ k=8 ∨ k=9:=by omega
 all_goals rfl
theorem names_k (k:Nat) (hk:k < 10) (w:World):Calls Tryz.prog 16 #[] w fun e w' => ∃ g,e=.returned (.slice (some ⟨g,0,none⟩) 10 10)/\w'.cell? ⟨g,k,none⟩=some (.string (nmK k))/\Below w.heap.size w w' :=
 (names_any w).mono fun e w' ⟨he,hw⟩ => ⟨_,he,by rw [hw]; exact nm_cell w _ k hk (Below.refl _ _),by rw [hw]; exact b_new _ _⟩
theorem set6o_heap {w:World} {B b:Nat} (h:b ≠ B) (v0 v1 v2 v3 v4 v5:Value):((((((w.setCell ⟨B,3,none⟩ v0).setCell ⟨B,4,none⟩ v1).setCell ⟨B,5,none⟩ v2).setCell ⟨B,6,none⟩ v3).setCell ⟨B,7,none⟩ v4).setCell ⟨B,8,none⟩ v5).heap[b]?=w.heap[b]?:=by
 rw [Below.heap_setCell _ ⟨B,8,none⟩ _ b h,Below.heap_setCell _ ⟨B,7,none⟩ _ b h,Below.heap_setCell _ ⟨B,6,none⟩ _ b h,Below.heap_setCell _ ⟨B,5,none⟩ _ b h,Below.heap_setCell _ ⟨B,4,none⟩ _ b h,Below.heap_setCell _ ⟨B,3,none⟩ _ b h]
theorem blk_set {w:World} {B:Nat} {cs:Array Value} {t:TypeId} {fr:Nat × Nat} (h:w.heap[B]?=some (.cells cs t fr)) (o:Nat) (v:Value):(w.setCell ⟨B,o,none⟩ v).heap[B]?=some (.cells (cs.setIfInBounds o v) t fr):=by
 simp [World.setCell,Array.getElem?_modify,h]
def V8 (W3:World) (k B2:Nat) (K Y p1 p2:Int):Nat->Value->World->Prop
 | 0,v,w => ∃ g,v=.slice (some ⟨g,0,none⟩) 10 10/\w.cell? ⟨g,k,none⟩=some (.string (nmK k))
 | 1,v,_ => v=.int .i64 (k:Int)
 | 2,v,w => ∃ g,v=.pointer (some ⟨g,k,none⟩)/\w.cell? ⟨g,k,none⟩=some (.string (nmK k))
 | 3,v,_ => v=.string (nmK k)
 | 4,v,_ => v=.pointer (some ⟨B2,0,none⟩)
 | 5,v,_ => v=.int .i64 K
 | 6,v,_ => v=.int .i64 p1
 | 7,v,_ => v=.int .i64 (1 + p1)
 | 8,v,_ => v=.pointer (some ⟨B2,2,none⟩)
 | 9,v,_ => v=.int .i64 Y
 | 10,v,_ => v=.int .i64 p2
 | 11,v,_ => v=.int .i64 (1 + p2)
 | 12,v,_ => v=.agg #[.string (nmK k),.int .i64 (1 + p1),.int .i64 (1 + p2),.int .i64 0,.int .i64 0,.int .i64 0,.string ⟨#[]⟩,.string ⟨#[]⟩,.slice none 0 0]
 | 13,v,w => ∃ B,v=.pointer (some ⟨B,0,none⟩)/\W3.heap.size<=B/\w.heap[B]?=some (.cells #[.string ⟨#[]⟩,.int .i64 0,.int .i64 0,.int .i64 0,.int .i64 0,.int .i64 0,.string ⟨#[]⟩,.string ⟨#[]⟩,.slice none 0 0] 47 (0,0))
 | _,_,_ => False
theorem V8.mono (W3:World) (k B2:Nat) (K Y p1 p2:Int):∀ i v w w',Below w.heap.size w w'->V8 W3 k B2 K Y p1 p2 i v w->V8 W3 k B2 K Y p1 p2 i v w':=fun i v w w' hb h => by
 match i,h with
 | 0,⟨g,h1,h2⟩ => exact ⟨g,h1,(hb.cell (p:=⟨g,k,none⟩) (cell_lt' h2)).trans h2⟩
 | 2,⟨g,h1,h2⟩ => exact ⟨g,h1,(hb.cell (p:=⟨g,k,none⟩) (cell_lt' h2)).trans h2⟩
 | 13,⟨B,h1,h2,h3⟩ => exact ⟨B,h1,h2,(hb.block _ (Array.getElem?_eq_some_iff.1 h3).1).trans h3⟩
 | 1,h | 3,h | 4,h | 5,h | 6,h | 7,h | 8,h | 9,h | 10,h | 11,h | 12,h => exact h
 | i + 14,h => exact h.elim
theorem new2 (w:World) (o:Obj) (cs:Array Value) (t:TypeId):((w.alloc o).alloc (.cells cs t)).heap[w.heap.size + 1]?=some (.cells cs t (0,0)):=by
 have:=World.alloc_heap_new (w.alloc o) (.cells cs t)
 rw [World.size_alloc] at this; exact this
theorem one_byte (w:World) (b:UInt8):(convert 60 9 (.slice (some ⟨w.heap.size,0,none⟩) 1 1)).run Tryz.prog (w.alloc (.cells #[.int .u8 (b.toNat:Int)] 5))=.ok (.string ⟨#[b]⟩) (w.alloc (.cells #[.int .u8 (b.toNat:Int)] 5)):=by
 have:=run_convert_bytes_back (P:=Tryz.prog) (w.alloc (.cells #[.int .u8 (b.toNat:Int)] 5)) 60 9 5 ⟨w.heap.size,0,none⟩ 1 [b] Tryz.underlying60 Tryz.underlying5 Tryz.underlying9 (fun j hj => by
  simp at hj; subst hj
  have h:=World.alloc_heap_new w (.cells #[.int .u8 (b.toNat:Int)] 5)
  rw [show ∀ p:Addr,p.add 0=p from fun p => by unfold Addr.add; rw [if_pos rfl]]
  unfold World.cell?
  rw [h]
  rfl)
 simpa using this
def FRow (P:Nat->Prop) (w:World) (A:Option Addr) (es:List FE):Prop:=∀ (i:Nat) (h:i < es.length),∃ g:Nat,A=some ⟨g,0,none⟩/\P g/\(∀ j,j < 9->w.cell? ⟨g,i * 9 + j,none⟩=(fdC es[i].fd)[j]?)/\IsP P w es[i].x es[i].x.d es[i].B es[i].m
def PRow (P:Nat->Prop) (w:World) (A:Option Addr) (ps:List PE):Prop:=∀ (i:Nat) (h:i < ps.length),∃ g:Nat,A=some ⟨g,0,none⟩/\P g/\(∀ j,j < 8->w.cell? ⟨g,i * 8 + j,none⟩=(pgC ps[i])[j]?)/\PIs P w ps[i]
def FormOut (rs:List Rw) (w:World) (e:Ending) (w':World):Prop :=
 ∃ (es:List FE) (FA:Option Addr) (fc:Nat) (ps:List PE) (PA:Option Addr) (pc:Nat),e=.returned (.agg #[.slice FA es.length fc,.slice PA ps.length pc])/\es.map FE.v=formF rs/\ps.map PE.v=formP rs ∧
  FRow (fun b => w.heap.size<=b) w' FA es/\PRow (fun b => w.heap.size<=b) w' PA ps/\Below w.heap.size w w'/\(es.length<=fc/\fc<=maxLen)/\(ps.length<=pc/\pc<=maxLen)/\w'.ownsRow w.heap.size 47 9 (.slice FA es.length fc) es.length (feC es)/\∀ e ∈ es,IsP (fun b => w.heap.size<=b/\some b ≠ (Value.slice FA es.length fc).ownBlock) w' e.x e.x.d e.B e.m
def RowE (w:World) (g:Nat) (es:List FE) (rest:List Value):Prop:=w.heap[g]?=some (.cells (feC es ++ rest).toArray 47 (0,0))
theorem RowE.cell {w:World} {g:Nat} {es:List FE} {rest:List Value} (h:RowE w g es rest) (i j:Nat) (hi:i < es.length) (hj:j < 9):w.cell? ⟨g,i * 9 + j,none⟩=(fdC es[i].fd)[j]?:=by
 have hl:=feC_len es
 have:w.cell? ⟨g,i * 9 + j,none⟩=(feC es ++ rest)[i * 9 + j]?:=by unfold World.cell?; rw [h]; simp
 rw [this,List.getElem?_append_left (by omega),feC_at es i j hi hj]
theorem feC_set9:∀ (es:List FE) (rest:List Value) (k:Nat) (_:k < es.length) (e:FE),(((((((((feC es ++ rest).set (k * 9) (.string e.nm)).set (k * 9 + 1) (.int .i64 e.kind)).set (k * 9 + 2) (.int .i64 e.ty)).set (k * 9 + 3) (.int .i64 e.x.d.op)).set (k * 9 + 4) (.int .i64 e.x.d.k)).set (k * 9 + 5) (.int .i64 e.x.d.n)).set (k * 9 + 6) (.string e.x.d.s)).set (k * 9 + 7) (.string e.x.d.nm)).set (k * 9 + 8) (.slice e.B e.m e.c)=feC (es.set k e) ++ rest
 | [],_,k,h,_ => absurd h (by simp)
 | x :: l,rest,0,_,v => rfl
 | x :: l,rest,k + 1,h,v => by
  have:=feC_set9 l rest k (by simpa using h) v
  rw [show (k + 1) * 9 + 1=k * 9 + 1 + 1 + 1 + 1 + 1 + 1 + 1 + 1 + 1 + 1 by omega,show (k + 1) * 9 + 2=k * 9 + 2 + 1 + 1 + 1 + 1 + 1 + 1 + 1 + 1 + 1 by omega,show (k + 1) * 9 + 3=k * 9 + 3 + 1 + 1 + 1 + 1 + 1 + 1 + 1 + 1 + 1 by omega,show (k + 1) * 9 + 4=k * 9 + 4 + 1 + 1 + 1 + 1 + 1 + 1 + 1 + 1 + 1 by omega,show (k + 1) * 9 + 5=k * 9 + 5 + 1 + 1 + 1 + 1 + 1 + 1 + 1 + 1 + 1 by omega,show (k + 1) * 9 + 6=k * 9 + 6 + 1 + 1 + 1 + 1 + 1 + 1 + 1 + 1 + 1 by omega,show (k + 1) * 9 + 7=k * 9 + 7 + 1 + 1 + 1 + 1 + 1 + 1 + 1 + 1 + 1 by omega,show (k + 1) * 9 + 8=k * 9 + 8 + 1 + 1 + 1 + 1 + 1 + 1 + 1 + 1 + 1 by omega,show (k + 1) * 9=k * 9 + 1 + 1 + 1 + 1 + 1 + 1 + 1 + 1 + 1 by omega]
  simp only [feC,fdC,FE.fd,List.cons_append,List.nil_append,List.set_cons_succ]
  rw [this]
theorem RowE.set9 {w:World} {g:Nat} {es:List FE} {rest:List Value} (h:RowE w g es rest) (k:Nat) (hk:k < es.length) (e:FE):RowE (w.setCells g (k * 9) (fdC e.fd)) g (es.set k e) rest:=by
 have e1:=heap_setCell_same w g (k * 9) _ _ (.string e.nm) h
 have e2:=heap_setCell_same _ g (k * 9 + 1) _ _ (.int .i64 e.kind) e1
 have e3:=heap_setCell_same _ g (k * 9 + 2) _ _ (.int .i64 e.ty) e2
 have e4:=heap_setCell_same _ g (k * 9 + 3) _ _ (.int .i64 e.x.d.op) e3
 have e5:=heap_setCell_same _ g (k * 9 + 4) _ _ (.int .i64 e.x.d.k) e4
 have e6:=heap_setCell_same _ g (k * 9 + 5) _ _ (.int .i64 e.x.d.n) e5
 have e7:=heap_setCell_same _ g (k * 9 + 6) _ _ (.string e.x.d.s) e6
 have e8:=heap_setCell_same _ g (k * 9 + 7) _ _ (.string e.x.d.nm) e7
 have e9:=heap_setCell_same _ g (k * 9 + 8) _ _ (.slice e.B e.m e.c) e8
 have ew:w.setCells g (k * 9) (fdC e.fd)=(((((((((w.setCell ⟨g,k * 9,none⟩ (.string e.nm)).setCell ⟨g,k * 9 + 1,none⟩ (.int .i64 e.kind)).setCell ⟨g,k * 9 + 2,none⟩ (.int .i64 e.ty)).setCell ⟨g,k * 9 + 3,none⟩ (.int .i64 e.x.d.op)).setCell ⟨g,k * 9 + 4,none⟩ (.int .i64 e.x.d.k)).setCell ⟨g,k * 9 + 5,none⟩ (.int .i64 e.x.d.n)).setCell ⟨g,k * 9 + 6,none⟩ (.string e.x.d.s)).setCell ⟨g,k * 9 + 7,none⟩ (.string e.x.d.nm)).setCell ⟨g,k * 9 + 8,none⟩ (.slice e.B e.m e.c)):=rfl
 unfold RowE
 rw [ew,e9,← feC_set9 es rest k hk e]
 simp
theorem RowE.range {w:World} {g:Nat} {es:List FE} {rest:List Value} (h:RowE w g es rest) (i:Nat) (hi:i < es.length):w.rangeAt g (i * 9) (fdC es[i].fd):=fun j v hv => by
 have hj:j < 9:=(List.getElem?_eq_some_iff.1 hv).1
 rw [h.cell i j hi hj,hv]
theorem RowE.there {w:World} {g:Nat} {es:List FE} {rest:List Value} (h:RowE w g es rest) (i:Nat) (hi:i < es.length):w.there g (i * 9) 9:=fun j hj => by
 refine ⟨?_,by unfold RowE at h; simp [World.frozen?,h]⟩
 rw [h.cell i j hi hj]
 obtain ⟨v,hv⟩:∃ v,(fdC es[i].fd)[j]?=some v:=⟨_,List.getElem?_eq_getElem (show j < (fdC es[i].fd).length by simpa [fdC] using hj)⟩
 rw [hv]; rfl
theorem grown_cells {w w':World} {g:Nat} (h:w.grownBy w' (some g)) (o:Nat) (vs:List Value):w.grownBy (w'.setCells g o vs) (some g):=by
 induction vs generalizing o w' with
 | nil => exact h
 | cons v r ih =>
  exact ih (w':=w'.setCell ⟨g,o,none⟩ v) ⟨h.os,h.tape,h.output,by simp [World.setCell]; exact h.size,fun k hk hne => (Below.heap_setCell w' ⟨g,o,none⟩ v k (fun e => hne (by rw [e]))).trans (h.block k hk hne)⟩ (o + 1)
theorem rev_grown {w wr:World} {g:Nat} (h:w.grownBy wr (some g)) (o o2:Nat) (vs vs2:List Value):w.grownBy ((wr.drew.setCells g o vs).setCells g o2 vs2) (some g):=by
 have hd:w.grownBy wr.drew (some g):=⟨h.os,h.tape,h.output,h.size,h.block⟩
 exact grown_cells (grown_cells hd _ _) _ _
def VR (g n cap i j:Nat) (x y:FE):Nat->Value->Prop
 | 0,v => v=.slice (some ⟨g,0,none⟩) n cap
 | 1,v => v=.int .i64 (i:Int)
 | 2,v => v=.slice (some ⟨g,0,none⟩) n cap
 | 3,v => v=.int .i64 (j:Int)
 | 4,v => v=.slice (some ⟨g,0,none⟩) n cap
 | 5,v => v=.int .i64 (j:Int)
 | 6,v => v=.pointer (some ⟨g,j * 9,none⟩)
 | 7,v => v=.agg (fdC y.fd).toArray
 | 8,v => v=.slice (some ⟨g,0,none⟩) n cap
 | 9,v => v=.int .i64 (i:Int)
 | 10,v => v=.pointer (some ⟨g,i * 9,none⟩)
 | 11,v => v=.agg (fdC x.fd).toArray
 | 12,v => v=.pointer (some ⟨g,i * 9,none⟩)
 | 14,v => v=.pointer (some ⟨g,j * 9,none⟩)
 | _,_ => True
def JR (W:World) (g n cap i j:Nat) (x y:FE) (D:Nat->Bool) (f:Nat->Value) (w:World):Prop :=
 (∀ k,D k=true->VR g n cap i j x y k (f k)) ∧
 ((D 13=false/\D 15=false/\w=W.drew) ∨ (D 13=true/\D 15=false/\D 7=true/\D 11=true/\w=W.drew.setCells g (i * 9) (fdC y.fd)) ∨ (D 13=true/\D 15=true/\D 7=true/\D 11=true/\w=(W.drew.setCells g (i * 9) (fdC y.fd)).setCells g (j * 9) (fdC x.fd)))
theorem jr_pure {W:World} {g n cap i j:Nat} {x y:FE} {D:Nat->Bool} {f:Nat->Value} {w:World} (h:JR W g n cap i j x y D f w) (k:Nat) (v:Value) (h13:k ≠ 13) (h15:k ≠ 15) (hv:VR g n cap i j x y k v):JR W g n cap i j x y (upd D k) (updf f k v) w:=by
 obtain ⟨h1,h2⟩:=h
 refine ⟨fun m hm => ?_,?_⟩
 ·by_cases e:m=k
  ·subst e; rw [updf_at]; exact hv
  ·rw [updf_ne _ _ _ _ e]; rw [upd_ne _ _ _ e] at hm; exact h1 m hm
 ·have hu:∀ j,D j=true->upd D k j=true:=fun j hj => by
   by_cases e:j=k
   ·subst e; exact upd_at _ _
   ·rw [upd_ne _ _ _ e]; exact hj
  rw [upd_ne _ _ 13 (by omega),upd_ne _ _ 15 (by omega)]
  rcases h2 with h2 | ⟨a,b,c,d,e⟩ | ⟨a,b,c,d,e⟩
  ·exact .inl h2
  ·exact .inr (.inl ⟨a,b,hu _ c,hu _ d,e⟩)
  ·exact .inr (.inr ⟨a,b,hu _ c,hu _ d,e⟩)
theorem jr_store {W:World} {g n cap i j:Nat} {x y:FE} {D:Nat->Bool} {f:Nat->Value} {w w':World} (h:JR W g n cap i j x y D f w) (k:Nat) (hk:k=13 ∨ k=15) (hp:(upd D k 13=false/\upd D k 15=false/\w'=W.drew) ∨ (upd D k 13=true/\upd D k 15=false/\upd D k 7=true/\upd D k 11=true/\w'=W.drew.setCells g (i * 9) (fdC y.fd)) ∨ (upd D k 13=true/\upd D k 15=true/\upd D k 7=true/\upd D k 11=true/\w'=(W.drew.setCells g (i * 9) (fdC y.fd)).setCells g (j * 9) (fdC x.fd))):JR W g n cap i j x y (upd D k) f w':=by
 refine ⟨fun m hm => ?_,hp⟩
 by_cases e:m=k
 ·subst e; rcases hk with rfl | rfl <;> exact trivial
 ·rw [upd_ne _ _ _ e] at hm; exact h.1 m hm
def RevL (es L:List FE) (i:Nat):Prop:=∃ h:L.length=es.length,∀ (p:Nat) (hp:p < es.length),L[p]'(by omega)=if p < i ∨ es.length - i<=p then es[es.length - 1 - p]'(by omega) else es[p]
theorem RevL.step {es L:List FE} {i j:Nat} (h:RevL es L i) (hij:i + j + 1=es.length) (hlt:i < j):RevL es ((L.set i (L[j]'(by have:=h.1; omega))).set j (L[i]'(by have:=h.1; omega))) (i + 1):=by
 obtain ⟨hl,hp⟩:=h
 have hi:=hp i (by omega)
 have hj:=hp j (by omega)
 rw [if_neg (by omega)] at hi hj
 refine ⟨by rw [List.length_set,List.length_set]; exact hl,fun p hpl => ?_⟩
 rw [List.getElem_set]
 by_cases e1:j=p
 ·subst e1
  rw [if_pos rfl,if_pos (by omega),hi]
  congr 1; omega
 ·rw [if_neg e1,List.getElem_set]
  by_cases e2:i=p
  ·subst e2
   rw [if_pos rfl,if_pos (by omega),hj]
   congr 1; omega
  ·rw [if_neg e2,hp p hpl]
   by_cases e3:p < i ∨ es.length - i<=p
   ·rw [if_pos e3,if_pos (by omega)]
   ·rw [if_neg e3,if_neg (by omega)]
theorem RevL.done {es L:List FE} {i:Nat} (h:RevL es L i) (hge:es.length<=2 * i + 1):L=es.reverse:=by
 obtain ⟨hl,hp⟩:=h
 refine List.ext_getElem (by rw [List.length_reverse]; exact hl) fun p h1 h2 => ?_
 rw [hp p (by omega),List.getElem_reverse]
 by_cases e:p < i ∨ es.length - i<=p
 ·rw [if_pos e]
 ·rw [if_neg e]
  congr 1; omega
set_option maxHeartbeats 8000000 in
set_option maxRecDepth 100000 in
theorem reverse_any (g cap:Nat) (es:List FE) (rest:List Value) (w:World) (h:RowE w g es rest) (hk:es.length<=1000) :
  Calls Tryz.prog 18 #[.slice (some ⟨g,0,none⟩) es.length cap] w fun e w' => e=.returned (.tuple #[])/\RowE w' g es.reverse rest/\w.grownBy w' (some g):=by
 have hw1:IntKind.i64.wrap ((es.length:Int) - 1)=(es.length:Int) - 1:=IntWalk.i64_in _ (by omega)
 have HR:=Lib.hid h
 clear h
 go_enter Tryz.func18,Tryz.ntmps18
 go_wp2_with fail
 go_loopw [2,3] (fun a b wr => ∃ (i:Nat) (z:Int) (L:List FE),a=.int .i64 (i:Int)/\b=.int .i64 z/\(i:Int) + z + 1=(es.length:Int)/\i<=es.length/\RevL es L i/\RowE wr g L rest/\w.grownBy wr (some g)) (fun a b _ => ((intOf b) - (intOf a) + 2).toNat)
 case atStart => exact ⟨0,_,es,rfl,rfl,by omega,by omega,⟨rfl,fun p hp => by rw [if_neg (by omega)]⟩,HR.out,⟨rfl,rfl,rfl,Nat.le_refl _,fun _ _ _ => rfl⟩⟩
 case round =>
  obtain ⟨i,z,L,rfl,rfl,hiz,hil,hL,hrow,hgr⟩:=hrel
  have hiz1:(i:Int) + z + 1<=(es.length:Int):=by omega
  have hiz2:(es.length:Int)<=(i:Int) + z + 1:=by omega
  clear hiz
  have HL:=Lib.hid hL
  have HRw:=Lib.hid hrow
  have HGr:=Lib.hid hgr
  have hLl1:L.length<=es.length:=by have:=hL.1; omega
  have hLl2:es.length<=L.length:=by have:=hL.1; omega
  by_cases hlt:(i:Int) < z
  ·obtain ⟨j,rfl⟩:∃ j:Nat,z=(j:Int):=⟨z.toNat,by omega⟩
   have hij:i < j:=by omega
   have hjl:j < L.length:=by omega
   have hil2:i < L.length:=by omega
   obtain ⟨x,hx⟩:∃ x,L[i]=x:=⟨_,rfl⟩
   obtain ⟨y,hy⟩:∃ y,L[j]=y:=⟨_,rfl⟩
   have hrd:RowE wr.drew g L rest:=hrow
   have hHx:=hrd.range i hil2
   have hHy:=hrd.range j hjl
   rw [hx] at hHx
   rw [hy] at hHy
   have hTi:=hrd.there i hil2
   have hr1:=hrd.set9 i hil2 y
   have hTj:=hr1.there j (by rw [List.length_set]; exact hjl)
   have hr2:=hr1.set9 j (by rw [List.length_set]; exact hjl) x
   have hS:=hL.step (by omega) hij
   simp only [hx,hy] at hS
   have hg2:=rev_grown hgr (i * 9) (j * 9) (fdC y.fd) (fdC x.fd)
   have hix:∀ W:World,(Instr.indexAt 26 (.slice (some ⟨g,0,none⟩) es.length cap) (.int .i64 (i:Int))).run Tryz.prog W=.ok (.pointer (some ⟨g,i * 9,none⟩)) W:=fun W => by
    have h1:(i:Int) < (es.length:Int):=by omega
    have h2:(0:Int)<=(i:Int):=by omega
    simp [go_sem,h1,h2]
   have hjx:∀ W:World,(Instr.indexAt 26 (.slice (some ⟨g,0,none⟩) es.length cap) (.int .i64 (j:Int))).run Tryz.prog W=.ok (.pointer (some ⟨g,j * 9,none⟩)) W:=fun W => by
    have h1:(j:Int) < (es.length:Int):=by omega
    have h2:(0:Int)<=(j:Int):=by omega
    simp [go_sem,h1,h2]
   have Hx:=Lib.hid hHx
   have Hy:=Lib.hid hHy
   have HTi:=Lib.hid hTi
   have HTj:=Lib.hid hTj
   have HR2:=Lib.hid hr2
   have HS:=Lib.hid hS
   have HG2:=Lib.hid hg2
   have HIx:=Lib.hid hix
   have HJx:=Lib.hid hjx
   clear hHx hHy hTi hTj hr1 hr2 hS hg2 hix hjx hrd hrow hL hgr hx hy
   go_upto_region 3 with fail
   ·refine region_fill [(0,14),(1,15),(2,16),(3,17),(4,18),(5,19),(6,20),(7,21),(8,22),(9,23),(10,24),(11,25),(12,26),(14,27)] (JR wr g es.length cap i j x y) (fun f => by simp only [fill,Act.put,List.setIfInBounds_toArray,List.set_cons_zero,List.set_cons_succ]; rfl) (by kernel_rfl) (by kernel_rfl) (by kernel_rfl) (fun f => ⟨fun k h => by simp at h,.inl ⟨rfl,rfl,rfl⟩⟩) ?_ ?_
    ·intro F hFr
     refine ⟨?_,?_,?_,?_,?_,?_,?_,?_,?_,?_,?_,?_,?_,?_,?_,?_,trivial⟩
     ·as_aux_lemma =>
      intro D f wx hJ hD hdep K9 hK
      exact stepF_val rfl (op_move rfl (v:=(.slice (some ⟨g,0,none⟩) es.length cap)) (by rw [hFr]; kernel_rfl)) (by rw [hFr,hFr]; kernel_rfl) (hK (updf f 0 (.slice (some ⟨g,0,none⟩) es.length cap)) _ (jr_pure hJ 0 _ (by decide) (by decide) rfl))
     ·as_aux_lemma =>
      intro D f wx hJ hD hdep K9 hK
      exact stepF_val rfl (op_move rfl (v:=(.int .i64 (i:Int))) (by rw [hFr]; kernel_rfl)) (by rw [hFr,hFr]; kernel_rfl) (hK (updf f 1 (.int .i64 (i:Int))) _ (jr_pure hJ 1 _ (by decide) (by decide) rfl))
     ·as_aux_lemma =>
      intro D f wx hJ hD hdep K9 hK
      exact stepF_val rfl (op_move rfl (v:=(.slice (some ⟨g,0,none⟩) es.length cap)) (by rw [hFr]; kernel_rfl)) (by rw [hFr,hFr]; kernel_rfl) (hK (updf f 2 (.slice (some ⟨g,0,none⟩) es.length cap)) _ (jr_pure hJ 2 _ (by decide) (by decide) rfl))
     ·as_aux_lemma =>
      intro D f wx hJ hD hdep K9 hK
      exact stepF_val rfl (op_move rfl (v:=(.int .i64 (j:Int))) (by rw [hFr]; kernel_rfl)) (by rw [hFr,hFr]; kernel_rfl) (hK (updf f 3 (.int .i64 (j:Int))) _ (jr_pure hJ 3 _ (by decide) (by decide) rfl))
     ·as_aux_lemma =>
      intro D f wx hJ hD hdep K9 hK
      exact stepF_val rfl (op_move rfl (v:=(.slice (some ⟨g,0,none⟩) es.length cap)) (by rw [hFr]; kernel_rfl)) (by rw [hFr,hFr]; kernel_rfl) (hK (updf f 4 (.slice (some ⟨g,0,none⟩) es.length cap)) _ (jr_pure hJ 4 _ (by decide) (by decide) rfl))
     ·as_aux_lemma =>
      intro D f wx hJ hD hdep K9 hK
      exact stepF_val rfl (op_move rfl (v:=(.int .i64 (j:Int))) (by rw [hFr]; kernel_rfl)) (by rw [hFr,hFr]; kernel_rfl) (hK (updf f 5 (.int .i64 (j:Int))) _ (jr_pure hJ 5 _ (by decide) (by decide) rfl))
     ·as_aux_lemma =>
      intro D f wx hJ hD hdep K9 hK
      have e4:f 4=_:=hJ.1 4 (done hdep 4 (by kernel_rfl))
      have e5:f 5=_:=hJ.1 5 (done hdep 5 (by kernel_rfl))
      exact stepF_val rfl (op_index rfl (p:=(.slice (some ⟨g,0,none⟩) es.length cap)) (q:=.int .i64 (j:Int)) ((show _=f 4 from by rw [hFr]; kernel_rfl).trans e4) ((show _=f 5 from by rw [hFr]; kernel_rfl).trans e5) (HJx.out wx)) (by rw [hFr,hFr]; kernel_rfl) (hK (updf f 6 (.pointer (some ⟨g,j * 9,none⟩))) _ (jr_pure hJ 6 _ (by decide) (by decide) rfl))
     ·as_aux_lemma =>
      intro D f wx hJ hD hdep K9 hK
      have e6:f 6=_:=hJ.1 6 (done hdep 6 (by kernel_rfl))
      have hw0:wx=wr.drew:=by
       rcases hJ.2 with ⟨_,_,h⟩ | ⟨_,_,h7,h11,_⟩ | ⟨_,_,h7,h11,_⟩
       ·exact h
       ·exfalso; first | (rw [h7] at hD; cases hD) | (rw [h11] at hD; cases hD)
       ·exfalso; first | (rw [h7] at hD; cases hD) | (rw [h11] at hD; cases hD)
      have hl:(Instr.loadAt 47 (.pointer (some ⟨g,j * 9,none⟩))).run Tryz.prog wx=.ok (.agg (fdC y.fd).toArray) wx:=by
       rw [hw0]; exact run_loadAt_mid _ g (j * 9) 47 _ _ Hy.out Tryz.underlying47 rfl (by kernel_rfl)
      exact stepF_val rfl (op_load rfl (p:=.pointer (some ⟨g,j * 9,none⟩)) ((show _=f 6 from by rw [hFr]; kernel_rfl).trans e6) hl) (by rw [hFr,hFr]; kernel_rfl) (hK (updf f 7 (.agg (fdC y.fd).toArray)) _ (jr_pure hJ 7 _ (by decide) (by decide) rfl))
     ·as_aux_lemma =>
      intro D f wx hJ hD hdep K9 hK
      exact stepF_val rfl (op_move rfl (v:=(.slice (some ⟨g,0,none⟩) es.length cap)) (by rw [hFr]; kernel_rfl)) (by rw [hFr,hFr]; kernel_rfl) (hK (updf f 8 (.slice (some ⟨g,0,none⟩) es.length cap)) _ (jr_pure hJ 8 _ (by decide) (by decide) rfl))
     ·as_aux_lemma =>
      intro D f wx hJ hD hdep K9 hK
      exact stepF_val rfl (op_move rfl (v:=(.int .i64 (i:Int))) (by rw [hFr]; kernel_rfl)) (by rw [hFr,hFr]; kernel_rfl) (hK (updf f 9 (.int .i64 (i:Int))) _ (jr_pure hJ 9 _ (by decide) (by decide) rfl))
     ·as_aux_lemma =>
      intro D f wx hJ hD hdep K9 hK
      have e8:f 8=_:=hJ.1 8 (done hdep 8 (by kernel_rfl))
      have e9:f 9=_:=hJ.1 9 (done hdep 9 (by kernel_rfl))
      exact stepF_val rfl (op_index rfl (p:=(.slice (some ⟨g,0,none⟩) es.length cap)) (q:=.int .i64 (i:Int)) ((show _=f 8 from by rw [hFr]; kernel_rfl).trans e8) ((show _=f 9 from by rw [hFr]; kernel_rfl).trans e9) (HIx.out wx)) (by rw [hFr,hFr]; kernel_rfl) (hK (updf f 10 (.pointer (some ⟨g,i * 9,none⟩))) _ (jr_pure hJ 10 _ (by decide) (by decide) rfl))
     ·as_aux_lemma =>
      intro D f wx hJ hD hdep K9 hK
      have e10:f 10=_:=hJ.1 10 (done hdep 10 (by kernel_rfl))
      have hw0:wx=wr.drew:=by
       rcases hJ.2 with ⟨_,_,h⟩ | ⟨_,_,h7,h11,_⟩ | ⟨_,_,h7,h11,_⟩
       ·exact h
       ·exfalso; first | (rw [h7] at hD; cases hD) | (rw [h11] at hD; cases hD)
       ·exfalso; first | (rw [h7] at hD; cases hD) | (rw [h11] at hD; cases hD)
      have hl:(Instr.loadAt 47 (.pointer (some ⟨g,i * 9,none⟩))).run Tryz.prog wx=.ok (.agg (fdC x.fd).toArray) wx:=by
       rw [hw0]; exact run_loadAt_mid _ g (i * 9) 47 _ _ Hx.out Tryz.underlying47 rfl (by kernel_rfl)
      exact stepF_val rfl (op_load rfl (p:=.pointer (some ⟨g,i * 9,none⟩)) ((show _=f 10 from by rw [hFr]; kernel_rfl).trans e10) hl) (by rw [hFr,hFr]; kernel_rfl) (hK (updf f 11 (.agg (fdC x.fd).toArray)) _ (jr_pure hJ 11 _ (by decide) (by decide) rfl))
     ·as_aux_lemma =>
      intro D f wx hJ hD hdep K9 hK
      have e0:f 0=_:=hJ.1 0 (done hdep 0 (by kernel_rfl))
      have e1:f 1=_:=hJ.1 1 (done hdep 1 (by kernel_rfl))
      exact stepF_val rfl (op_index rfl (p:=(.slice (some ⟨g,0,none⟩) es.length cap)) (q:=.int .i64 (i:Int)) ((show _=f 0 from by rw [hFr]; kernel_rfl).trans e0) ((show _=f 1 from by rw [hFr]; kernel_rfl).trans e1) (HIx.out wx)) (by rw [hFr,hFr]; kernel_rfl) (hK (updf f 12 (.pointer (some ⟨g,i * 9,none⟩))) _ (jr_pure hJ 12 _ (by decide) (by decide) rfl))
     ·as_aux_lemma =>
      intro D f wx hJ hD hdep K9 hK
      have e12:f 12=_:=hJ.1 12 (done hdep 12 (by kernel_rfl))
      have e7:f 7=_:=hJ.1 7 (done hdep 7 (by kernel_rfl))
      have d7:=done hdep 7 (by kernel_rfl)
      have d11:=done hdep 11 (by kernel_rfl)
      have hw0:D 15=false/\wx=wr.drew:=by
       rcases hJ.2 with ⟨_,h15,h⟩ | ⟨h13,_⟩ | ⟨h13,_⟩
       ·exact ⟨h15,h⟩
       ·rw [h13] at hD; cases hD
       ·rw [h13] at hD; cases hD
      obtain ⟨h15,hw0⟩:=hw0
      have hl:(Instr.storeAt 47 (.pointer (some ⟨g,i * 9,none⟩)) (.agg (fdC y.fd).toArray)).run Tryz.prog wx=.ok () (wr.drew.setCells g (i * 9) (fdC y.fd)):=by
       rw [hw0]; exact run_storeAt_mid _ g (i * 9) 47 (fdC y.fd).toArray HTi.out (by kernel_rfl) (by simp [fdC,Value.oneCell'])
      exact stepF_skip rfl rfl (op_store rfl ((show _=f 12 from by rw [hFr]; kernel_rfl).trans e12) ((show _=f 7 from by rw [hFr]; kernel_rfl).trans e7) hl) (hK f _ (jr_store hJ 13 (.inl rfl) (.inr (.inl ⟨upd_at _ _,by rw [upd_ne _ _ _ (by decide)]; exact h15,by rw [upd_ne _ _ _ (by decide)]; exact d7,by rw [upd_ne _ _ _ (by decide)]; exact d11,rfl⟩))))
     ·as_aux_lemma =>
      intro D f wx hJ hD hdep K9 hK
      have e2:f 2=_:=hJ.1 2 (done hdep 2 (by kernel_rfl))
      have e3:f 3=_:=hJ.1 3 (done hdep 3 (by kernel_rfl))
      exact stepF_val rfl (op_index rfl (p:=(.slice (some ⟨g,0,none⟩) es.length cap)) (q:=.int .i64 (j:Int)) ((show _=f 2 from by rw [hFr]; kernel_rfl).trans e2) ((show _=f 3 from by rw [hFr]; kernel_rfl).trans e3) (HJx.out wx)) (by rw [hFr,hFr]; kernel_rfl) (hK (updf f 14 (.pointer (some ⟨g,j * 9,none⟩))) _ (jr_pure hJ 14 _ (by decide) (by decide) rfl))
     ·as_aux_lemma =>
      intro D f wx hJ hD hdep K9 hK
      have e14:f 14=_:=hJ.1 14 (done hdep 14 (by kernel_rfl))
      have e11:f 11=_:=hJ.1 11 (done hdep 11 (by kernel_rfl))
      have d13:=done hdep 13 (by kernel_rfl)
      have hw0:D 7=true/\D 11=true/\wx=wr.drew.setCells g (i * 9) (fdC y.fd):=by
       rcases hJ.2 with ⟨h13,_⟩ | ⟨_,_,h7,h11,h⟩ | ⟨_,h15,_⟩
       ·rw [d13] at h13; cases h13
       ·exact ⟨h7,h11,h⟩
       ·rw [h15] at hD; cases hD
      obtain ⟨h7,h11,hw0⟩:=hw0
      have hl:(Instr.storeAt 47 (.pointer (some ⟨g,j * 9,none⟩)) (.agg (fdC x.fd).toArray)).run Tryz.prog wx=.ok () ((wr.drew.setCells g (i * 9) (fdC y.fd)).setCells g (j * 9) (fdC x.fd)):=by
       rw [hw0]; exact run_storeAt_mid _ g (j * 9) 47 (fdC x.fd).toArray HTj.out (by kernel_rfl) (by simp [fdC,Value.oneCell'])
      exact stepF_skip rfl rfl (op_store rfl ((show _=f 14 from by rw [hFr]; kernel_rfl).trans e14) ((show _=f 11 from by rw [hFr]; kernel_rfl).trans e11) hl) (hK f _ (jr_store hJ 15 (.inr rfl) (.inr (.inr ⟨by rw [upd_ne _ _ _ (by decide)]; exact d13,upd_at _ _,by rw [upd_ne _ _ _ (by decide)]; exact h7,by rw [upd_ne _ _ _ (by decide)]; exact h11,rfl⟩))))
    ·intro D f wx hJ hall
     have hw9:wx=(wr.drew.setCells g (i * 9) (fdC y.fd)).setCells g (j * 9) (fdC x.fd):=by
      rcases hJ.2 with ⟨h13,_⟩ | ⟨_,h15,_⟩ | ⟨_,_,_,_,h⟩
      ·rw [hall 13 (by decide)] at h13; cases h13
      ·rw [hall 15 (by decide)] at h15; cases h15
      ·exact h
     obtain ⟨W9,hW9⟩:∃ V,(wr.drew.setCells g (i * 9) (fdC y.fd)).setCells g (j * 9) (fdC x.fd)=V:=⟨_,rfl⟩
     rw [hW9] at hw9
     subst hw9
     clear hJ hall
     have hR2:=HR2.out
     have hG2:=HG2.out
     rw [hW9] at hR2 hG2
     have HA:=Lib.hid (And.intro hR2 hG2)
     have hwj:IntKind.i64.wrap ((j:Int) - 1)=(j:Int) - 1:=IntWalk.i64_in _ (by omega)
     clear hR2 hG2 hW9
     go_wp2_with fail
     go_roundw
     case rel => exact ⟨i + 1,(j:Int) - 1,_,by go_num,rfl,by omega,by omega,HS.out,HA.out.1,HA.out.2⟩
     case measure => simp [intOf]; omega
  ·have hj:L=es.reverse:=hL.done (by omega)
   have HJ:=Lib.hid hj
   clear hj hL hrow hgr
   go_wp2_with fail
   go_end0
   refine ⟨rfl,?_,HGr.out⟩
   have:=HRw.out
   rw [HJ.out] at this
   exact this
theorem frow_of {w w':World} {g:Nat} {es:List FE} {rest:List Value} {B:Nat} (h:RowE w' g es rest) (hB:B<=g) (his:∀ e ∈ es,IsP (fun b => B<=b) w' e.x e.x.d e.B e.m):FRow (fun b => B<=b) w' (some ⟨g,0,none⟩) es:=fun i hi =>
 ⟨g,rfl,hB,fun j hj => h.cell i j hi hj,his _ (List.getElem_mem _)⟩
theorem PRow.keep {P Q:Nat->Prop} {w w':World} {A:Option Addr} {ps:List PE} (h:PRow P w A ps) (hk:∀ b,P b->b < w.heap.size->w'.heap[b]?=w.heap[b]?) (hq:∀ b,P b->b < w.heap.size->Q b):PRow Q w' A ps:=fun i hi => by
 obtain ⟨g,e,hp,hc,hs⟩:=h i hi
 have hl:g < w.heap.size:=by
  have:=hc 0 (by decide)
  exact cell_lt' (a:=⟨g,i * 8 + 0,none⟩) this
 exact ⟨g,e,hq _ hp hl,fun j hj => (World.cell?_of_block (hk _ hp hl)).trans (hc j hj),hs.keep hk hq⟩
theorem own_cap {w:World} {base:Nat} {e:TypeId} {size:Nat} {A:Option Addr} {n c:Nat} {xs:List Value} (h:w.ownsRow base e size (.slice A n c) n xs):n<=c/\c<=maxLen:=by
 rcases h.2 with ⟨h1,h2⟩ | ⟨g,cap,cur,h1,_,_,h4,h5,_⟩
 ·injection h1 with _ _ h3
  subst h3; subst h2; exact ⟨Nat.le_refl _,Nat.zero_le _⟩
 ·injection h1 with _ _ h3
  subst h3; exact ⟨h4,h5⟩
theorem prow_of {w:World} {base k:Nat} {v:Value} {ps:List PE} (h:w.ownsRow base 50 8 v k (peC ps)) (hk:ps.length=k) (his:∀ e ∈ ps,PIs (fun b => base<=b/\some b ≠ v.ownBlock) w e):∃ A c,v=.slice A k c/\PRow (fun b => base<=b) w A ps:=by
 subst hk
 rcases Nat.eq_zero_or_pos ps.length with h0 | h0
 ·obtain ⟨A,c,e⟩:=own_slice h
  exact ⟨A,c,e,fun j hj => absurd hj (by omega)⟩
 ·obtain ⟨g,cap,e,hg,_,_,_,hc⟩:=own_form h h0
  refine ⟨_,cap,e,fun i hi => ⟨g,rfl,hg,fun j hj => ?_,(his _ (List.getElem_mem _)).keep (fun _ _ _ => rfl) (fun b hb _ => hb.1)⟩⟩
  rw [hc _ (by omega),peC_at ps i j hi hj]
theorem infoPg:(Tryz.prog.info? 50).map (fun i => (i.zero,i.size,i.bytes))=some (some (.agg #[.string ⟨#[]⟩,.slice none 0 0,.int .i64 0,.int .i64 0,.int .i64 0,.string ⟨#[]⟩,.string ⟨#[]⟩,.slice none 0 0]),8,120):=by kernel_rfl
theorem own_str {w:World} {base k:Nat} {v:Value} {l:List ByteArray} (h:w.ownsRow base 9 1 v k (l.map Value.string)) (hk:l.length=k):∃ A c,v=.slice A l.length c/\StrP (fun b => base<=b) w A l:=by
 subst hk
 rcases Nat.eq_zero_or_pos l.length with h0 | h0
 ·obtain ⟨A,c,e⟩:=own_slice h
  exact ⟨A,c,e,fun j hj => absurd hj (by omega)⟩
 ·obtain ⟨g,cap,e,hg,_,_,_,hc⟩:=own_form h h0
  refine ⟨_,cap,e,fun j hj => ⟨⟨g,0,none⟩,rfl,hg,?_⟩⟩
  rw [add_block,hc j (by omega),List.getElem?_map,List.getElem?_eq_getElem hj]; rfl
theorem gr_below {G B:Nat} {a b c:World} (h:Gr G a b) (g:Below B b c) (hB:a.heap.size<=B):Gr G a c:=⟨g.os.trans h.os,g.tape.trans h.tape,g.output.trans h.output,Nat.le_trans h.size g.size,fun k hk hne => (g.block k (by omega)).trans (h.block k hk hne)⟩
theorem set6p_heap {w:World} {B b:Nat} (h:b ≠ B) (v0 v1 v2 v3 v4 v5:Value):((((((w.setCell ⟨B,2,none⟩ v0).setCell ⟨B,3,none⟩ v1).setCell ⟨B,4,none⟩ v2).setCell ⟨B,5,none⟩ v3).setCell ⟨B,6,none⟩ v4).setCell ⟨B,7,none⟩ v5).heap[b]?=w.heap[b]?:=by
 rw [Below.heap_setCell _ ⟨B,7,none⟩ _ b h,Below.heap_setCell _ ⟨B,6,none⟩ _ b h,Below.heap_setCell _ ⟨B,5,none⟩ _ b h,Below.heap_setCell _ ⟨B,4,none⟩ _ b h,Below.heap_setCell _ ⟨B,3,none⟩ _ b h,Below.heap_setCell _ ⟨B,2,none⟩ _ b h]
structure PnI (W4:World) (B4 k n i:Nat) (l:List FV) (nm:ByteArray) (j:Nat) (names:List ByteArray) (u2:Value) (wq:World):Prop where
 le:j<=k
 nms:names=onV l n i j
 own:wq.ownsRow (B4 + 1) 9 1 u2 names.length (names.map Value.string)
 box:wq.heap[B4]?=some (.cells #[.string nm,u2,.int .i64 0,.int .i64 0,.int .i64 0,.string ⟨#[]⟩,.string ⟨#[]⟩,.slice none 0 0] 50 (0,0))
 below:Below B4 W4 wq
theorem PnI.skip {W4 wq:World} {B4 k n i:Nat} {l:List FV} {nm:ByteArray} {j:Nat} {names:List ByteArray} {u2:Value} {o:Obj} (h:PnI W4 B4 k n i l nm j names u2 wq) (hj:j < k) (hb:B4 < W4.heap.size) (hne:¬ j % (n + 1)=i):PnI W4 B4 k n i l nm (j + 1) names u2 (wq.alloc o) :=
 ⟨hj,by show _=(if _ then _ else _); rw [if_neg hne]; exact h.nms,h.own.alloc o,((b_new wq o).block _ (Array.getElem?_eq_some_iff.1 h.box).1).trans h.box,h.below.alloc (by have:=h.below.size; omega) _⟩
theorem PnI.step {W4 wq w6:World} {B4 k n i:Nat} {l:List FV} {nm:ByteArray} {j:Nat} {names:List ByteArray} {u2:Value} {o1 o2:Obj} {f:FV} {gg cap:Nat} (h:PnI W4 B4 k n i l nm j names u2 wq) (hj:j < k) (hb:B4 < W4.heap.size) (hne:j % (n + 1)=i) (hf:l[j]?=some f)
  (hown:w6.ownsRow (B4 + 1) 9 1 (.slice (some ⟨gg,0,none⟩) (names.length + 1) cap) (names.length + 1) (names.map Value.string ++ [.string f.nm])) (hgrow:((wq.alloc o1).alloc o2).grownBy w6 u2.ownBlock) :
  PnI W4 B4 k n i l nm (j + 1) (names ++ [f.nm]) (.slice (some ⟨gg,0,none⟩) (names.length + 1) cap) (w6.setCell ⟨B4,1,none⟩ (.slice (some ⟨gg,0,none⟩) (names.length + 1) cap)):=by
 have hs:=h.below.size
 have hgg:B4 + 1<=gg:=(hown.lt gg rfl).1
 have hfar:∀ b,b<=B4->some b ≠ u2.ownBlock:=fun b hb e => by have:=(h.own.lt b e.symm).1; omega
 have hbl:=(Array.getElem?_eq_some_iff.1 h.box).1
 refine ⟨hj,?_,?_,?_,?_⟩
 ·show _=(if _ then _ else _)
  rw [if_pos hne,hf,h.nms]; rfl
 ·rw [List.map_append,List.length_append]
  refine World.ownsRow.kept (row:=some B4) hown ⟨rfl,rfl,rfl,by simp [World.setCell],fun k _ hk => Below.heap_setCell _ _ _ k (fun e => hk (by rw [e]))⟩ (.inr ?_)
  show some gg ≠ some B4
  intro e; injection e with e; omega
 ·have h6:w6.heap[B4]?=_:=(hgrow.block _ (by simp; omega) (hfar _ (Nat.le_refl _))).trans (((b_new (wq.alloc o1) o2).block _ (by simp; omega)).trans (((b_new wq o1).block _ hbl).trans h.box))
  simp [World.setCell,Array.getElem?_modify,h6]
 ·have h6:Below B4 W4 w6:=⟨hgrow.os.trans h.below.os,hgrow.tape.trans h.below.tape,hgrow.output.trans h.below.output,by have:=hgrow.size; simp at this; omega,fun b hb9 => (hgrow.block _ (by simp; omega) (hfar _ (by omega))).trans (((b_new (wq.alloc o1) o2).block _ (by simp; omega)).trans (((b_new wq o1).block _ (by omega)).trans (h.below.block b hb9)))⟩
  exact h6.setCell (Nat.le_refl _) _
theorem flds_kp {G F:Nat} {Wp wq:World} {A FA:Option Addr} {n c a:Nat} {fs:List GenL.Fd} {x y:Value} {t:TypeId} (h:Flds Wp FA fs) (hg:RawL.Gen Wp G A n c a) (hb:Wp.heap[F]?=some (.cells #[x,y] t (0,0))) (hk:∀ b,b < Wp.heap.size->b ≠ G->b ≠ F->wq.heap[b]?=Wp.heap[b]?):Flds wq FA fs:=fun i hi => by
 obtain ⟨ad,e,hf⟩:=h i hi
 refine ⟨ad,e,hf.of_block (hk _ hf.lt (fun e => ?_) (fun e => ?_))⟩
 ·have h2:=hf.2.2.1
  rw [e,hg.none2] at h2; cases h2
 ·have h2:=hf.2.2.1
  rw [e] at h2; simp [World.cell?,hb] at h2
theorem infoFd:(Tryz.prog.info? 47).map (fun i => (i.zero,i.size,i.bytes))=some (some (.agg #[.string ⟨#[]⟩,.int .i64 0,.int .i64 0,.int .i64 0,.int .i64 0,.int .i64 0,.string ⟨#[]⟩,.string ⟨#[]⟩,.slice none 0 0]),9,112):=by kernel_rfl
set_option maxHeartbeats 8000000 in
set_option maxRecDepth 100000 in
theorem form_any (c:Nat) (A:Option Addr) (rs:List Rw) (w:World) (hr:RawsV w A rs c) :
  Calls Tryz.prog 5 #[.slice A rs.length c] w (FormOut rs w):=by
 obtain ⟨i0,hi,hz0,hz1,hz2⟩:=info_parts infoFd
 -- ahead of the first draw
 obtain ⟨W,hW⟩:∃ W,((w.alloc (.cells #[.slice none 0 0,.slice none 0 0] 29)).alloc (.cells #[.slice A rs.length c,.int .i64 0] 54)).alloc (.cells #[.slice none 0 0,.slice none 0 0] 29)=W:=⟨_,rfl⟩
 have hbW:Below w.heap.size w W:=by rw [← hW]; exact b_more (b_more (b_new _ _) _) _
 have g0:W.heap[w.heap.size]?=some (.cells #[.slice none 0 0,.slice none 0 0] 29 (0,0)):=by
  rw [← hW]
  exact ((b_new _ _).block _ (by simp; omega)).trans (((b_new _ _).block _ (by simp)).trans (World.alloc_heap_new w _))
 have g1:RawL.Gen W (w.heap.size + 1) A rs.length c 0:=by
  rw [← hW]
  have:=World.alloc_heap_new (w.alloc (.cells #[.slice none 0 0,.slice none 0 0] 29)) (.cells #[.slice A rs.length c,.int .i64 0] 54)
  rw [World.size_alloc] at this
  exact ((b_new _ _).block _ (by simp)).trans this
 have g2:W.heap[w.heap.size + 2]?=some (.cells #[.slice none 0 0,.slice none 0 0] 29 (0,0)):=by
  rw [← hW]
  have:=World.alloc_heap_new ((w.alloc (.cells #[.slice none 0 0,.slice none 0 0] 29)).alloc (.cells #[.slice A rs.length c,.int .i64 0] 54)) (.cells #[.slice none 0 0,.slice none 0 0] 29)
  simp only [World.size_alloc] at this
  exact this
 have hrW:=hr.below hbW
 have hnx:=nextV_any (w.heap.size + 1) c 0 A rs W g1 hrW (by decide)
 unfold NextV at hnx
 obtain ⟨R0,hR0⟩:∃ R,nextV rs 0=R:=⟨_,rfl⟩
 have hN:(countV rs:Int)=1 + pick R0.x 10:=by
  rw [← hR0]; unfold countV
  have:=pick_bd (nextV rs 0).x 10 (by decide)
  omega
 rw [hR0] at hnx
 have HR0:=Lib.hid hR0
 have HR00:=Lib.hid hr
 have HNx:=Lib.hid hnx
 have HW:=Lib.hid hW
 have HBW:=Lib.hid hbW
 have HRW:=Lib.hid hrW
 have G0:=Lib.hid g0
 have G1:=Lib.hid g1
 have G2:=Lib.hid g2
 have HNn:=Lib.hid hN
 clear hnx hW hbW hr hR0 hN hrW g0 g1 g2
 go_enter Tryz.func5,Tryz.ntmps5
 go_wp2_with fail
 rw [HW.out]
 refine HNx.out.mono ?_; rintro e w1 ⟨rfl,⟨k0,k1,k2,k3⟩,hg1,hgr1⟩
 have HKr:=Lib.hid (And.intro k0 k2)
 obtain ⟨B1,hB1⟩:∃ B,w1.heap.size=B:=⟨_,rfl⟩
 have hs1:=hgr1.size
 have hsW:w.heap.size + 3=W.heap.size:=by rw [← HW.out]; simp
 obtain ⟨W1,hW1⟩:∃ V,w1.alloc (.cells #[.int .i64 R0.k,.int .i64 R0.x,.int .i64 R0.y,.string R0.t] 56)=V:=⟨_,rfl⟩
 have hb1:=b_new w1 (.cells #[.int .i64 R0.k,.int .i64 R0.x,.int .i64 R0.y,.string R0.t] 56)
 rw [hW1] at hb1
 have hfst:W1.heap[B1]?=some (.cells #[.int .i64 R0.k,.int .i64 R0.x,.int .i64 R0.y,.string R0.t] 56 (0,0)):=by rw [← hW1,← hB1]; exact World.alloc_heap_new w1 _
 have hbW1:Below w.heap.size w W1:=⟨hb1.os.trans (hgr1.os.trans HBW.out.os),hb1.tape.trans (hgr1.tape.trans HBW.out.tape),hb1.output.trans (hgr1.output.trans HBW.out.output),by have:=hb1.size; omega,fun b hb => (hb1.block b (by omega)).trans ((hgr1.block b (by omega) (fun e => by injection e; omega)).trans (HBW.out.block b hb))⟩
 have hI0:FoI w B1 A rs c R0 0 [] (.slice none 0 0) (nextA rs 0) W1 :=
  ⟨World.ownsRow_nil _ _ _ _,rfl,rfl,by unfold nextA; split <;> omega,fun e he => absurd he (by simp),hg1.below hb1,
   (hb1.block _ (by omega)).trans ((hgr1.block _ (by omega) (fun e => by injection e; omega)).trans G0.out),
   (hb1.block _ (by omega)).trans ((hgr1.block _ (by omega) (fun e => by injection e; omega)).trans G2.out),hfst,by omega,hbW1⟩
 have hr1:RawsV W1 A rs c:=(Gr.rawsV hgr1 G1.out HRW.out).below hb1
 have HI0:=Lib.hid hI0
 have HR1:=Lib.hid hr1
 have HW1:=Lib.hid hW1
 have hp:=fun V => picked_any R0.x 10 V k1 (by decide) (by decide)
 have hpb:=pick_bd R0.x 10 (by decide)
 generalize pick R0.x 10=p0 at hp hpb HNn
 obtain ⟨hp0,hp1⟩:=hpb
 have HP:=Lib.hid hp
 have hcell:∀ V,Below W1.heap.size W1 V->V.cell? ⟨B1,0,none⟩=some (.int .i64 R0.k)/\V.cell? ⟨B1,1,none⟩=some (.int .i64 R0.x)/\V.cell? ⟨B1,2,none⟩=some (.int .i64 R0.y):=fun V hV => by
  have e1:V.heap[B1]?=_:=(hV.block _ (Array.getElem?_eq_some_iff.1 hfst).1).trans hfst
  exact ⟨by simp [World.cell?,e1],by simp [World.cell?,e1],by simp [World.cell?,e1]⟩
 have HCell:=Lib.hid hcell
 have hbl:=Below.refl W1.heap.size W1
 obtain ⟨q0,q1,q2⟩:=hcell W1 hbl
 clear hg1 hgr1 hb1 hfst hbW1 hI0 hr1 hW1 hp hcell
 have HBq:=Lib.hid hB1
 clear hB1
 go_wp2_with fail
 rw [HW1.out,HBq.out]
 go_upto_region 4 with fail
 go_cut [25,26] (fun s25 s26 wx => s25=.int .i64 (1 + p0)/\s26=.int .i64 0/\Below W1.heap.size W1 wx)
 case first =>
  go_region_held3 (fun V => V.cell? ⟨B1,0,none⟩=some (.int .i64 R0.k)/\V.cell? ⟨B1,1,none⟩=some (.int .i64 R0.x)/\V.cell? ⟨B1,2,none⟩=some (.int .i64 R0.y)) (first | (with_reducible exact HCell.out _ hbl) | (with_reducible exact HCell.out _ (b_drew hbl)))
   (first | (go_at_call 16; (with_reducible refine (names_any _).mono ?_); rintro e wn ⟨rfl,rfl⟩; have hbl:Below W1.heap.size W1 _:=(by first | exact b_more hbl nmObj | exact b_more (b_drew hbl) nmObj)) | (go_at_call 7; (with_reducible refine (HP.out _).mono ?_); rintro e wk ⟨rfl,rfl⟩))
  all_goals (go_wp2_with fail; go_meet)
  all_goals exact ⟨congrArg (Value.int .i64) (IntWalk.i64_in _ (by omega)),rfl,by repeat (first | exact hbl | refine b_drew ?_)⟩
 case rest =>
  obtain ⟨rfl,rfl,hbc⟩:=hcut
  have hI1:=HI0.out.keep hbc
  have hr2:=HR1.out.below hbc
  obtain ⟨N,hN⟩:∃ N,countV rs=N:=⟨_,rfl⟩
  have hNb:=countV_bd rs
  rw [hN] at hNb HNn
  have hNp:(1 + p0:Int)=(N:Int):=HNn.out.symm
  rw [hNp]
  obtain ⟨Wc,hWc⟩:∃ V,wc=V:=⟨_,rfl⟩
  rw [hWc] at hI1 hr2 ⊢
  have HI1:=Lib.hid hI1
  have HR2:=Lib.hid hr2
  have HNN:=Lib.hid hN
  clear hbc hI1 hr2 hN hWc q0 q1 q2 hbl HI0 HR1 HCell HW1 HBq HNx hNp
  obtain ⟨hN1,hN2⟩:=hNb
  go_wp2_with fail
  go_loopw [6,7,8,26] (fun _ _ _ i wr => ∃ (k:Nat) (es:List FE) (v:Value) (a:Nat),i=.int .i64 k/\k<=N/\FoI w B1 A rs c R0 k es v a wr/\RawsV wr A rs c) (fun _ _ _ i _ => N - (intOf i).toNat)
  case atStart => exact ⟨0,[],_,_,rfl,by omega,HI1.out,HR2.out⟩
  case round =>
   obtain ⟨k,es,v,a,rfl,hkN,hI,hrr⟩:=hrel
   have HI:=Lib.hid hI
   have HRr:=Lib.hid hrr
   by_cases hlt:k < N
   ·have hnx:=nextV_any (w.heap.size + 1) c a A rs wr hI.gen hrr (by have:=hI.few; omega)
    unfold NextV at hnx
    obtain ⟨R,hR⟩:∃ R,nextV rs a=R:=⟨_,rfl⟩
    rw [hR] at hnx
    obtain ⟨a1,ha1⟩:∃ q,nextA rs a=q:=⟨_,rfl⟩
    have ha1b:a1<=a + 1:=by rw [← ha1]; unfold nextA; split <;> omega
    rw [ha1] at hnx
    obtain ⟨K,X,Y,T⟩:=R
    simp only at hnx
    have HNx:=Lib.hid hnx
    have HR:=Lib.hid hR
    have HA1:=Lib.hid ha1
    have hfew:=hI.few
    have hsr:=hI.below.size
    have hltB:=hI.lt
    have hBl:=(Array.getElem?_eq_some_iff.1 hI.fst).1
    clear hnx hR ha1 hI hrr
    go_wp2_with fail
    refine HNx.out.mono ?_; rintro e w3 ⟨rfl,⟨k0,k1,k2,k3⟩,hg3,hgr3⟩
    simp only at k0 k1 k2 k3
    obtain ⟨B2,hB2⟩:∃ B,w3.heap.size=B:=⟨_,rfl⟩
    obtain ⟨W3,hW3⟩:∃ V,w3.alloc (.cells #[.int .i64 K,.int .i64 X,.int .i64 Y,.string T] 56)=V:=⟨_,rfl⟩
    have hb3:=b_new w3 (.cells #[.int .i64 K,.int .i64 X,.int .i64 Y,.string T] 56)
    rw [hW3] at hb3
    have hs3:=hgr3.size
    have hbx:W3.heap[B2]?=some (.cells #[.int .i64 K,.int .i64 X,.int .i64 Y,.string T] 56 (0,0)):=by rw [← hW3,← hB2]; exact World.alloc_heap_new w3 _
    have hgrW:Gr (w.heap.size + 1) wr W3:=hgr3.trans (Gr.of_below hb3)
    have hgW:RawL.Gen W3 (w.heap.size + 1) A rs.length c a1:=hg3.below hb3
    have hcell:∀ V,Below W3.heap.size W3 V->V.cell? ⟨B2,0,none⟩=some (.int .i64 K)/\V.cell? ⟨B2,1,none⟩=some (.int .i64 X)/\V.cell? ⟨B2,2,none⟩=some (.int .i64 Y):=fun V hV => by
     have e1:V.heap[B2]?=_:=(hV.block _ (Array.getElem?_eq_some_iff.1 hbx).1).trans hbx
     exact ⟨by simp [World.cell?,e1],by simp [World.cell?,e1],by simp [World.cell?,e1]⟩
    obtain ⟨p1,hp1⟩:∃ p,pick K 3=p:=⟨_,rfl⟩
    obtain ⟨p2,hp2⟩:∃ p,pick Y 3=p:=⟨_,rfl⟩
    obtain ⟨p3,hp3⟩:∃ p,pick X 3=p:=⟨_,rfl⟩
    have b1:=pick_bd K 3 (by decide)
    have b2:=pick_bd Y 3 (by decide)
    have b3:=pick_bd X 3 (by decide)
    have hP1:=fun V => picked_any K 3 V k0 (by decide) (by decide)
    have hP2:=fun V => picked_any Y 3 V k2 (by decide) (by decide)
    have hP3:=fun V => picked_any X 3 V k1 (by decide) (by decide)
    rw [hp1] at b1 hP1
    rw [hp2] at b2 hP2
    rw [hp3] at b3 hP3
    obtain ⟨b10,b11⟩:=b1
    obtain ⟨b20,b21⟩:=b2
    obtain ⟨b30,b31⟩:=b3
    have HB2:=Lib.hid hB2
    have HW3:=Lib.hid hW3
    have HCell:=Lib.hid hcell
    have HP1:=Lib.hid hP1
    have HP2:=Lib.hid hP2
    have HP3:=Lib.hid hP3
    have HPk:=Lib.hid (And.intro hp1 (And.intro hp2 hp3))
    have HGrW:=Lib.hid hgrW
    have HGW:=Lib.hid hgW
    have hbl:=Below.refl W3.heap.size W3
    obtain ⟨q0,q1,q2⟩:=hcell W3 hbl
    have hsB:B2 < W3.heap.size:=(Array.getElem?_eq_some_iff.1 hbx).1
    have hsB2:wr.heap.size<=B2:=by omega
    have hk10:k < 10:=by omega
    have hk10i:(k:Int) < 10:=by omega
    have hk00i:(0:Int)<=(k:Int):=by omega
    have hnmc:=names_k k hk10
    have HNm:=Lib.hid hnmc
    clear hB2 hW3 hcell hP1 hP2 hP3 hp1 hp2 hp3 hgrW hgW hbx hb3 hg3 hgr3 hnmc
    go_wp2_with fail
    rw [HW3.out,HB2.out]
    go_upto_region 8 with fail
    go_cut [8] (fun s8 wx => ∃ B8:Nat,s8=.pointer (some ⟨B8,0,none⟩)/\W3.heap.size<=B8/\wx.heap[B8]?=some (.cells #[.string (nmK k),.int .i64 (1 + p1),.int .i64 (1 + p2),.int .i64 0,.int .i64 0,.int .i64 0,.string ⟨#[]⟩,.string ⟨#[]⟩,.slice none 0 0] 47 (0,0))/\Below W3.heap.size W3 wx)
    case first =>
     have HM:=Lib.hid (V8.mono W3 k B2 K Y p1 p2)
     have hen0:∀ (args:Array Value) (w:World),(callFunc 16 args).run Tryz.prog w=.ok (.enter 16 args) w:=fun _ _ => by kernel_rfl
     have hen1:∀ (args:Array Value) (w:World),(callFunc 7 args).run Tryz.prog w=.ok (.enter 7 args) w:=fun _ _ => by kernel_rfl
     refine region_fill [(0,31),(1,32),(2,33),(3,34),(4,35),(5,36),(6,37),(7,38),(8,39),(9,40),(10,41),(11,42),(12,43),(13,8)] (JM W3 14 (V8 W3 k B2 K Y p1 p2) (fun f w => ∃ B,f 13=.pointer (some ⟨B,0,none⟩)/\W3.heap.size<=B/\w.heap[B]?=some (.cells #[.string (nmK k),.int .i64 (1 + p1),.int .i64 (1 + p2),.int .i64 0,.int .i64 0,.int .i64 0,.string ⟨#[]⟩,.string ⟨#[]⟩,.slice none 0 0] 47 (0,0))/\Below W3.heap.size W3 w)) (fun f => by simp only [fill,Act.put,List.setIfInBounds_toArray,List.set_cons_zero,List.set_cons_succ]; rfl) (by kernel_rfl) (by kernel_rfl) (by kernel_rfl) (fun f => jm_start (Below.refl _ _) f) ?_ ?_
     ·intro F hFr
      refine ⟨?_,?_,?_,?_,?_,?_,?_,?_,?_,?_,?_,?_,?_,?_,?_,trivial⟩
      ·as_aux_lemma =>
       intro D f wx hJ hD hdep K9 hK
       obtain ⟨hL,hbw,hv⟩:=jm_live hJ (by decide) hD
       refine stepF_callR rfl (op_enter rfl rfl (xs:=#[]) (by kernel_rfl) hen0) (HNm.out wx) ?_
       rintro e w5 ⟨g,rfl,hnm,hbn⟩
       have hk:=hK (updf f 0 (.slice (some ⟨g,0,none⟩) 10 10)) w5 (jm_step HM.out hJ (by decide) hD hbn ⟨g,rfl,hnm⟩)
       refine ⟨_,rfl,?_⟩
       rw [hFr] at hk ⊢
       exact hk
      ·as_aux_lemma =>
       intro D f wx hJ hD hdep K9 hK
       obtain ⟨hL,hbw,hv⟩:=jm_live hJ (by decide) hD
       exact stepF_val rfl (op_move rfl (v:=.int .i64 (k:Int)) (by rw [hFr]; kernel_rfl)) (by rw [hFr,hFr]; kernel_rfl) (hK (updf f 1 (.int .i64 (k:Int))) _ (jm_step HM.out hJ (by decide) hD (b_ref _) rfl))
      ·as_aux_lemma =>
       intro D f wx hJ hD hdep K9 hK
       obtain ⟨hL,hbw,hv⟩:=jm_live hJ (by decide) hD
       have e0:=hv 0 (by decide) (done hdep 0 (by kernel_rfl))
       have e1:=hv 1 (by decide) (done hdep 1 (by kernel_rfl))
       obtain ⟨g,e0,hnm⟩:=e0
       have hl:(Instr.indexAt 31 (.slice (some ⟨g,0,none⟩) 10 10) (.int .i64 (k:Int))).run Tryz.prog wx=.ok (.pointer (some ⟨g,k,none⟩)) wx:=by simp [go_sem,hk10i,hk00i]
       exact stepF_val rfl (op_index rfl (p:=.slice (some ⟨g,0,none⟩) 10 10) (q:=.int .i64 (k:Int)) ((show _=f 0 from by rw [hFr]; kernel_rfl).trans e0) ((show _=f 1 from by rw [hFr]; kernel_rfl).trans e1) hl) (by rw [hFr,hFr]; kernel_rfl) (hK (updf f 2 (.pointer (some ⟨g,k,none⟩))) _ (jm_step HM.out hJ (by decide) hD (b_ref _) ⟨g,rfl,hnm⟩))
      ·as_aux_lemma =>
       intro D f wx hJ hD hdep K9 hK
       obtain ⟨hL,hbw,hv⟩:=jm_live hJ (by decide) hD
       have e2:=hv 2 (by decide) (done hdep 2 (by kernel_rfl))
       obtain ⟨g,e2,hnm⟩:=e2
       have hl:(Instr.loadAt 9 (.pointer (some ⟨g,k,none⟩))).run Tryz.prog wx=.ok (.string (nmK k)) wx:=by simp [go_sem,hnm]
       exact stepF_val rfl (op_load rfl (p:=.pointer (some ⟨g,k,none⟩)) ((show _=f 2 from by rw [hFr]; kernel_rfl).trans e2) hl) (by rw [hFr,hFr]; kernel_rfl) (hK (updf f 3 (.string (nmK k))) _ (jm_step HM.out hJ (by decide) hD (b_ref _) rfl))
      ·as_aux_lemma =>
       intro D f wx hJ hD hdep K9 hK
       obtain ⟨hL,hbw,hv⟩:=jm_live hJ (by decide) hD
       have hl:(Instr.fieldAt 56 (.pointer (some ⟨B2,0,none⟩)) 0).run Tryz.prog wx=.ok (.pointer (some ⟨B2,0,none⟩)) wx:=by simp [go_sem]
       exact stepF_val rfl (op_field rfl (p:=(.pointer (some ⟨B2,0,none⟩))) (by rw [hFr]; kernel_rfl) hl) (by rw [hFr,hFr]; kernel_rfl) (hK (updf f 4 (.pointer (some ⟨B2,0,none⟩))) _ (jm_step HM.out hJ (by decide) hD (b_ref _) rfl))
      ·as_aux_lemma =>
       intro D f wx hJ hD hdep K9 hK
       obtain ⟨hL,hbw,hv⟩:=jm_live hJ (by decide) hD
       have e4:=hv 4 (by decide) (done hdep 4 (by kernel_rfl))
       have hc:=(HCell.out wx hbw).1
       have hl:(Instr.loadAt 3 (.pointer (some ⟨B2,0,none⟩))).run Tryz.prog wx=.ok (.int .i64 K) wx:=by simp [go_sem,hc]
       exact stepF_val rfl (op_load rfl (p:=(.pointer (some ⟨B2,0,none⟩))) ((show _=f 4 from by rw [hFr]; kernel_rfl).trans e4) hl) (by rw [hFr,hFr]; kernel_rfl) (hK (updf f 5 (.int .i64 K)) _ (jm_step HM.out hJ (by decide) hD (b_ref _) rfl))
      ·as_aux_lemma =>
       intro D f wx hJ hD hdep K9 hK
       obtain ⟨hL,hbw,hv⟩:=jm_live hJ (by decide) hD
       have e5:=hv 5 (by decide) (done hdep 5 (by kernel_rfl))
       have e5':f 5=(.int .i64 K):=e5
       refine stepF_callR rfl (op_enter rfl rfl (xs:=#[(.int .i64 K),.int .i64 3]) (by rw [← e5',hFr]; kernel_rfl) hen1) (HP1.out wx) ?_
       rintro e w5 ⟨rfl,rfl⟩
       have hk:=hK (updf f 6 (.int .i64 p1)) wx (jm_step HM.out hJ (by decide) hD (b_ref _) rfl)
       refine ⟨_,rfl,?_⟩
       rw [hFr] at hk ⊢
       exact hk
      ·as_aux_lemma =>
       intro D f wx hJ hD hdep K9 hK
       obtain ⟨hL,hbw,hv⟩:=jm_live hJ (by decide) hD
       have e6:=hv 6 (by decide) (done hdep 6 (by kernel_rfl))
       have hl:(do eqGuard .add 3 (.const (.int .i64 1)) (.tmp 37) (.int .i64 1) (.int .i64 p1); binOp .add 3 (.int .i64 1) (.int .i64 p1):Sem Value).run Tryz.prog wx=.ok (.int .i64 (1 + p1)) wx:=by simp [go_sem,eqGuard,IntWalk.i64_in (1 + p1) (by omega)]
       exact stepF_val rfl (op_bin rfl (p:=.int .i64 1) (q:=.int .i64 p1) rfl ((show _=f 6 from by rw [hFr]; kernel_rfl).trans e6) hl) (by rw [hFr,hFr]; kernel_rfl) (hK (updf f 7 (.int .i64 (1 + p1))) _ (jm_step HM.out hJ (by decide) hD (b_ref _) rfl))
      ·as_aux_lemma =>
       intro D f wx hJ hD hdep K9 hK
       obtain ⟨hL,hbw,hv⟩:=jm_live hJ (by decide) hD
       have hl:(Instr.fieldAt 56 (.pointer (some ⟨B2,0,none⟩)) 2).run Tryz.prog wx=.ok (.pointer (some ⟨B2,2,none⟩)) wx:=by simp [go_sem]
       exact stepF_val rfl (op_field rfl (p:=(.pointer (some ⟨B2,0,none⟩))) (by rw [hFr]; kernel_rfl) hl) (by rw [hFr,hFr]; kernel_rfl) (hK (updf f 8 (.pointer (some ⟨B2,2,none⟩))) _ (jm_step HM.out hJ (by decide) hD (b_ref _) rfl))
      ·as_aux_lemma =>
       intro D f wx hJ hD hdep K9 hK
       obtain ⟨hL,hbw,hv⟩:=jm_live hJ (by decide) hD
       have e8:=hv 8 (by decide) (done hdep 8 (by kernel_rfl))
       have hc:=(HCell.out wx hbw).2.2
       have hl:(Instr.loadAt 3 (.pointer (some ⟨B2,2,none⟩))).run Tryz.prog wx=.ok (.int .i64 Y) wx:=by simp [go_sem,hc]
       exact stepF_val rfl (op_load rfl (p:=(.pointer (some ⟨B2,2,none⟩))) ((show _=f 8 from by rw [hFr]; kernel_rfl).trans e8) hl) (by rw [hFr,hFr]; kernel_rfl) (hK (updf f 9 (.int .i64 Y)) _ (jm_step HM.out hJ (by decide) hD (b_ref _) rfl))
      ·as_aux_lemma =>
       intro D f wx hJ hD hdep K9 hK
       obtain ⟨hL,hbw,hv⟩:=jm_live hJ (by decide) hD
       have e9:=hv 9 (by decide) (done hdep 9 (by kernel_rfl))
       have e9':f 9=(.int .i64 Y):=e9
       refine stepF_callR rfl (op_enter rfl rfl (xs:=#[(.int .i64 Y),.int .i64 3]) (by rw [← e9',hFr]; kernel_rfl) hen1) (HP2.out wx) ?_
       rintro e w5 ⟨rfl,rfl⟩
       have hk:=hK (updf f 10 (.int .i64 p2)) wx (jm_step HM.out hJ (by decide) hD (b_ref _) rfl)
       refine ⟨_,rfl,?_⟩
       rw [hFr] at hk ⊢
       exact hk
      ·as_aux_lemma =>
       intro D f wx hJ hD hdep K9 hK
       obtain ⟨hL,hbw,hv⟩:=jm_live hJ (by decide) hD
       have e10:=hv 10 (by decide) (done hdep 10 (by kernel_rfl))
       have hl:(do eqGuard .add 3 (.const (.int .i64 1)) (.tmp 41) (.int .i64 1) (.int .i64 p2); binOp .add 3 (.int .i64 1) (.int .i64 p2):Sem Value).run Tryz.prog wx=.ok (.int .i64 (1 + p2)) wx:=by simp [go_sem,eqGuard,IntWalk.i64_in (1 + p2) (by omega)]
       exact stepF_val rfl (op_bin rfl (p:=.int .i64 1) (q:=.int .i64 p2) rfl ((show _=f 10 from by rw [hFr]; kernel_rfl).trans e10) hl) (by rw [hFr,hFr]; kernel_rfl) (hK (updf f 11 (.int .i64 (1 + p2))) _ (jm_step HM.out hJ (by decide) hD (b_ref _) rfl))
      ·as_aux_lemma =>
       intro D f wx hJ hD hdep K9 hK
       obtain ⟨hL,hbw,hv⟩:=jm_live hJ (by decide) hD
       have e3:=hv 3 (by decide) (done hdep 3 (by kernel_rfl))
       have e7:=hv 7 (by decide) (done hdep 7 (by kernel_rfl))
       have e11:=hv 11 (by decide) (done hdep 11 (by kernel_rfl))
       have e3':f 3=.string (nmK k):=e3
       have e7':f 7=.int .i64 (1 + p1):=e7
       have e11':f 11=.int .i64 (1 + p2):=e11
       have hl:∀ (s:ByteArray) (x y:Int),(Instr.build 47 #[(0,.string s),(1,.int .i64 x),(2,.int .i64 y)]).run Tryz.prog wx=.ok (.agg #[.string s,.int .i64 x,.int .i64 y,.int .i64 0,.int .i64 0,.int .i64 0,.string ⟨#[]⟩,.string ⟨#[]⟩,.slice none 0 0]) wx:=fun s x y => by kernel_rfl
       exact stepF_val rfl (op_build rfl (qs:=#[(0,.string (nmK k)),(1,.int .i64 (1 + p1)),(2,.int .i64 (1 + p2))]) (by rw [← e3',← e7',← e11',hFr]; kernel_rfl) (hl _ _ _)) (by rw [hFr,hFr]; kernel_rfl) (hK (updf f 12 (.agg #[.string (nmK k),.int .i64 (1 + p1),.int .i64 (1 + p2),.int .i64 0,.int .i64 0,.int .i64 0,.string ⟨#[]⟩,.string ⟨#[]⟩,.slice none 0 0])) _ (jm_step HM.out hJ (by decide) hD (b_ref _) rfl))
      ·as_aux_lemma =>
       intro D f wx hJ hD hdep K9 hK
       obtain ⟨hL,hbw,hv⟩:=jm_live hJ (by decide) hD
       have hl:(Instr.alloc 47 true (.tuple #[])).run Tryz.prog wx=.ok (.pointer (some ⟨wx.heap.size,0,none⟩)) (wx.alloc (.cells #[.string ⟨#[]⟩,.int .i64 0,.int .i64 0,.int .i64 0,.int .i64 0,.int .i64 0,.string ⟨#[]⟩,.string ⟨#[]⟩,.slice none 0 0] 47)):=by kernel_rfl
       exact stepF_val rfl (op_alloc rfl hl) (by rw [hFr,hFr]; kernel_rfl) (hK (updf f 13 (.pointer (some ⟨wx.heap.size,0,none⟩))) _ (jm_step HM.out hJ (by decide) hD (b_new _ _) ⟨_,rfl,hbw.size,World.alloc_heap_new _ _⟩))
      ·as_aux_lemma =>
       intro D f wx hJ hD hdep K9 hK
       obtain ⟨hL,hbw,hv⟩:=jm_live hJ (by decide) hD
       have d0:=done hdep 0 (by kernel_rfl)
       have d1:=done hdep 1 (by kernel_rfl)
       have d2:=done hdep 2 (by kernel_rfl)
       have d3:=done hdep 3 (by kernel_rfl)
       have d4:=done hdep 4 (by kernel_rfl)
       have d5:=done hdep 5 (by kernel_rfl)
       have d6:=done hdep 6 (by kernel_rfl)
       have d7:=done hdep 7 (by kernel_rfl)
       have d8:=done hdep 8 (by kernel_rfl)
       have d9:=done hdep 9 (by kernel_rfl)
       have d10:=done hdep 10 (by kernel_rfl)
       have d11:=done hdep 11 (by kernel_rfl)
       have d12:=done hdep 12 (by kernel_rfl)
       have d13:=done hdep 13 (by kernel_rfl)
       obtain ⟨B,e13,hB,hblk⟩:=hv 13 (by decide) d13
       have e12:f 12=(.agg #[.string (nmK k),.int .i64 (1 + p1),.int .i64 (1 + p2),.int .i64 0,.int .i64 0,.int .i64 0,.string ⟨#[]⟩,.string ⟨#[]⟩,.slice none 0 0]):=hv 12 (by decide) d12
       have hl:(Instr.storeAt 47 (.pointer (some ⟨B,0,none⟩)) (.agg #[.string (nmK k),.int .i64 (1 + p1),.int .i64 (1 + p2),.int .i64 0,.int .i64 0,.int .i64 0,.string ⟨#[]⟩,.string ⟨#[]⟩,.slice none 0 0])).run Tryz.prog wx=.ok () (wx.setRow B #[.string (nmK k),.int .i64 (1 + p1),.int .i64 (1 + p2),.int .i64 0,.int .i64 0,.int .i64 0,.string ⟨#[]⟩,.string ⟨#[]⟩,.slice none 0 0]):=by
        simp only [Instr.storeAt,Instr.sureAddr,Sem.run_bind,Sem.run_pure,Result.andThen_ok]
        exact run_storeVar_row wx B 47 47 _ _ hblk (by kernel_rfl) rfl (by simp [Value.oneCell'])
       have hbl9:=below_setRow hbw hB #[.string (nmK k),.int .i64 (1 + p1),.int .i64 (1 + p2),.int .i64 0,.int .i64 0,.int .i64 0,.string ⟨#[]⟩,.string ⟨#[]⟩,.slice none 0 0]
       have hblk9:=setRow_heap wx B _ #[.string (nmK k),.int .i64 (1 + p1),.int .i64 (1 + p2),.int .i64 0,.int .i64 0,.int .i64 0,.string ⟨#[]⟩,.string ⟨#[]⟩,.slice none 0 0] _ _ hblk
       have hall:∀ i,i < 14->D i=true:=fun i hi => by
        match i,hi with
        | 0,_ => exact d0
        | 1,_ => exact d1
        | 2,_ => exact d2
        | 3,_ => exact d3
        | 4,_ => exact d4
        | 5,_ => exact d5
        | 6,_ => exact d6
        | 7,_ => exact d7
        | 8,_ => exact d8
        | 9,_ => exact d9
        | 10,_ => exact d10
        | 11,_ => exact d11
        | 12,_ => exact d12
        | 13,_ => exact d13
       exact stepF_skip rfl rfl (op_store rfl ((show _=f 13 from by rw [hFr]; kernel_rfl).trans e13) ((show _=f 12 from by rw [hFr]; kernel_rfl).trans e12) hl) (hK f _ (jm_last hall ⟨B,e13,hB,hblk9,hbl9⟩))
     ·intro D f wx hJ hall
      obtain ⟨B,e13,hB,hblk,hbw⟩:=jm_end hJ (hall 14 (by decide))
      have HX:=Lib.hid (And.intro hB (And.intro hblk hbw))
      clear hB hblk hbw hJ hall
      rw [e13]
      go_wp2_with fail
      go_meet
      exact ⟨B,rfl,HX.out⟩
    case rest =>
     obtain ⟨W8,rfl⟩:∃ V,V=wc:=⟨_,rfl⟩
     obtain ⟨B8,rfl,hB8,hblk,hbc⟩:=hcut
     have hgrc:Gr (w.heap.size + 1) wr W8:=HGrW.out.trans (Gr.of_below hbc)
     have hgc:RawL.Gen W8 (w.heap.size + 1) A rs.length c a1:=HGW.out.below hbc
     have hrc:RawsV W8 A rs c:=Gr.rawsV hgrc HI.out.gen HRr.out
     have hne:∀ b,b<=B1->b ≠ w.heap.size + 1->W8.heap[b]?=wr.heap[b]?:=fun b hb hn => hgrc.block b (by omega) (fun e => by injection e; omega)
     have hbox:W8.heap[w.heap.size + 2]?=some (.cells #[v,.slice none 0 0] 29 (0,0)):=(hne _ (by omega) (by omega)).trans HI.out.box
     obtain ⟨FA,fc,hv,hfl⟩:=own_flds (HI.out.own.kept hgrc (.inr (HI.out.far _ (by omega)).symm)) HI.out.len
     have hlen:=HI.out.len
     have hfs:=HI.out.nmsz
     have hfn:(es.map FE.fd).length<=1000000:=by rw [List.length_map]; omega
     have hsrc:∀ x a2,(if 1 + p1=2 then (x,a2)=exprV rs (fvs (es.map FE.v)) 2 (1 + p2) a1 else if 1 + p1=3 then (x,a2)=exprV rs (fvs (es.map FE.v)) 1 (1 + p3) a1 else (x,a2)=(zeroX,a1))->(x,a2)=srcV rs (es.map FE.v) a:=fun x a2 h => by
      unfold srcV
      rw [HR.out,HA1.out]
      dsimp only
      rw [HPk.out.1,HPk.out.2.1,HPk.out.2.2]
      by_cases h2:1 + p1=2
      ·rw [if_pos h2] at h ⊢; exact h
      ·rw [if_neg h2] at h ⊢
       by_cases h3:1 + p1=3
       ·rw [if_pos h3] at h ⊢; exact h
       ·rw [if_neg h3] at h ⊢; exact h
     have hcells:∀ V:World,Gr (w.heap.size + 1) W8 V->(∀ o,V.cell? ⟨B8,o,none⟩=(#[.string (nmK k),.int .i64 (1 + p1),.int .i64 (1 + p2),.int .i64 0,.int .i64 0,.int .i64 0,.string ⟨#[]⟩,.string ⟨#[]⟩,.slice none 0 0]:Array Value)[o]?)/\(∀ o,V.frozen? ⟨B8,o,none⟩=false)/\B8 < V.heap.size:=fun V hV => by
      have hl:=(Array.getElem?_eq_some_iff.1 hblk).1
      have h8:V.heap[B8]?=_:=(hV.block _ hl (fun e => by injection e; omega)).trans hblk
      exact ⟨fun o => by simp [World.cell?,h8],fun o => by simp [World.frozen?,h8],Nat.lt_of_lt_of_le hl hV.size⟩
     have hfin:∀ (x:Ex) (d:Nd) (B:Option Addr) (m cp a2:Nat) (V wx:World),Gr (w.heap.size + 1) W8 V->(x,a2)=srcV rs (es.map FE.v) a->IsP (fun b => W8.heap.size<=b) V x d B m->a2<=a + 27->RawL.Gen V (w.heap.size + 1) A rs.length c a2->wx=((((((V.setCell ⟨B8,3,none⟩ (.int .i64 d.op)).setCell ⟨B8,4,none⟩ (.int .i64 d.k)).setCell ⟨B8,5,none⟩ (.int .i64 d.n)).setCell ⟨B8,6,none⟩ (.string d.s)).setCell ⟨B8,7,none⟩ (.string d.nm)).setCell ⟨B8,8,none⟩ (.slice B m cp)) →
       ∃ (x:Ex) (d:Nd) (B:Option Addr) (m cp a2:Nat),wx.heap[B8]?=some (.cells #[.string (nmK k),.int .i64 (1 + p1),.int .i64 (1 + p2),.int .i64 d.op,.int .i64 d.k,.int .i64 d.n,.string d.s,.string d.nm,.slice B m cp] 47 (0,0))/\(x,a2)=srcV rs (es.map FE.v) a/\IsP (fun b => wr.heap.size<=b) wx x d B m/\a2<=a + 27/\RawL.Gen wx (w.heap.size + 1) A rs.length c a2/\Gr (w.heap.size + 1) wr wx:=fun x d B m cp a2 V wx hV hx hi ha hg hw => by
      have hl:=(Array.getElem?_eq_some_iff.1 hblk).1
      have h8:V.heap[B8]?=_:=(hV.block _ hl (fun e => by injection e; omega)).trans hblk
      refine ⟨x,d,B,m,cp,a2,?_,hx,?_,ha,?_,?_⟩
      ·rw [hw]; exact blk_set (blk_set (blk_set (blk_set (blk_set (blk_set h8 3 _) 4 _) 5 _) 6 _) 7 _) 8 _
      ·rw [hw]
       have hs:=hgrc.size
       exact IsP.keep (fun b hb hl9 => set6o_heap (by omega) _ _ _ _ _ _) (fun b hb hl9 => by omega) _ _ _ _ hi
      ·rw [hw]
       repeat' (first | (with_reducible exact hg) | (with_reducible refine Gen.far ?_ ?_ _) | (dsimp only; omega))
      ·rw [hw]
       have hh:=hgrc.trans hV
       repeat' (first | (with_reducible exact hh) | (with_reducible refine Gr.set ?_ ?_) | (dsimp only; omega))
     have hzero:1 + p1 ≠ 2->1 + p1 ≠ 3->∀ wx,wx=W8->∃ (x:Ex) (d:Nd) (B:Option Addr) (m cp a2:Nat),wx.heap[B8]?=some (.cells #[.string (nmK k),.int .i64 (1 + p1),.int .i64 (1 + p2),.int .i64 d.op,.int .i64 d.k,.int .i64 d.n,.string d.s,.string d.nm,.slice B m cp] 47 (0,0))/\(x,a2)=srcV rs (es.map FE.v) a/\IsP (fun b => wr.heap.size<=b) wx x d B m/\a2<=a + 27/\RawL.Gen wx (w.heap.size + 1) A rs.length c a2/\Gr (w.heap.size + 1) wr wx:=fun h2 h3 wx hw => by
      refine ⟨zeroX,zeroN,none,0,0,a1,by rw [hw]; exact hblk,hsrc _ _ (by rw [if_neg h2,if_neg h3]),isP_leaf _ _ _ _ (Nat.zero_le _) (Nat.zero_le _),by omega,by rw [hw]; exact hgc,by rw [hw]; exact hgrc⟩
     have hE2:=exprV_all 2 (by decide) (w.heap.size + 1) c a1 fc A FA rs (es.map FE.fd) (1 + p2)
     have hE1:=exprV_all 1 (by decide) (w.heap.size + 1) c a1 fc A FA rs (es.map FE.fd) (1 + p3)
     have hc2:cost 2=26:=rfl
     have hc1:cost 1=8:=rfl
     rw [nts_fe,hc2] at hE2
     rw [nts_fe,hc1] at hE1
     have hx2:∀ V,Below W8.heap.size W8 V->Calls Tryz.prog 17 #[.pointer (some ⟨w.heap.size + 1,0,none⟩),.int .i64 (1 + p2),v,.int .i64 2] V (MadeV (w.heap.size + 1) A rs.length c (a1 + 26) (fun x a' => (x,a')=exprV rs (fvs (es.map FE.v)) 2 (1 + p2) a1) V):=fun V hV => by
      rw [hv]; exact hE2 V (hgc.below hV) (hrc.below hV) (hfl.below hV) hfn hfs (by omega)
     have hx1:∀ V,Below W8.heap.size W8 V->Calls Tryz.prog 17 #[.pointer (some ⟨w.heap.size + 1,0,none⟩),.int .i64 (1 + p3),v,.int .i64 1] V (MadeV (w.heap.size + 1) A rs.length c (a1 + 8) (fun x a' => (x,a')=exprV rs (fvs (es.map FE.v)) 1 (1 + p3) a1) V):=fun V hV => by
      rw [hv]; exact hE1 V (hgc.below hV) (hrc.below hV) (hfl.below hV) hfn hfs (by omega)
     have hcell:∀ V,Below W8.heap.size W8 V->V.cell? ⟨B2,1,none⟩=some (.int .i64 X)/\V.cell? ⟨w.heap.size + 2,0,none⟩=some v:=fun V hV => by
      have e1:V.heap[w.heap.size + 2]?=_:=(hV.block _ (Array.getElem?_eq_some_iff.1 hbox).1).trans hbox
      exact ⟨(HCell.out V (b_trans hbc hV)).2.1,by simp [World.cell?,e1]⟩
     obtain ⟨d0,d1⟩:=hcell W8 (Below.refl _ _)
     have z8:=(hcells W8 (Gr.refl _ _)).1 1
     have z9:=(hcells W8 (Gr.refl _ _)).1 2
     have HCe:=Lib.hid hcell
     have HX1:=Lib.hid hx1
     have HX2:=Lib.hid hx2
     have HFin:=Lib.hid hfin
     have HZero:=Lib.hid hzero
     have HCells:=Lib.hid hcells
     have HSrc:=Lib.hid hsrc
     have HBox:=Lib.hid hbox
     simp at z8
     simp at z9
     clear hgrc hgc hrc hne hbox hv hfl hfs hfn hsrc hcells hfin hzero hE2 hE1 hc2 hc1 hx2 hx1 hcell hblk q0 q1 q2
     go_upto_block 2 with (fail)
     go_cut [] (fun wx => ∃ (x:Ex) (d:Nd) (B:Option Addr) (m cp a2:Nat),wx.heap[B8]?=some (.cells #[.string (nmK k),.int .i64 (1 + p1),.int .i64 (1 + p2),.int .i64 d.op,.int .i64 d.k,.int .i64 d.n,.string d.s,.string d.nm,.slice B m cp] 47 (0,0))/\(x,a2)=srcV rs (es.map FE.v) a/\IsP (fun b => wr.heap.size<=b) wx x d B m/\a2<=a + 27/\RawL.Gen wx (w.heap.size + 1) A rs.length c a2/\Gr (w.heap.size + 1) wr wx)
     case first =>
      by_cases h2:p1=1
      ·subst h2
       have t2:((1:Int) + 1 == 2)=true:=rfl
       have hx:=HX2.out W8 (Below.refl _ _)
       have HX:=Lib.hid hx
       clear hx
       go_wp2_with fail
       refine HX.out.mono ?_; rintro e w7 ⟨x,d,B,m,cp,a2,rfl,hx,hisx,ha2,hg7,hgr7⟩
       obtain ⟨c7,f7,l7⟩:=HCells.out w7 hgr7
       have hF:=HFin.out x d B m cp a2 w7 _ hgr7 (HSrc.out x a2 (by rw [if_pos (by omega)]; exact hx)) hisx (by omega) hg7 rfl
       have HF:=Lib.hid hF
       clear hF hx hisx ha2 hg7 hgr7
       go_wp2_with fail
       go_meet
       exact HF.out
      ·by_cases h3:p1=2
       ·subst h3
        have t2:((1:Int) + 2 == 2)=false:=rfl
        have t3:((1:Int) + 2 == 3)=true:=rfl
        have hbl:=Below.refl W8.heap.size W8
        have hw3:IntKind.i64.wrap (1 + p3)=1 + p3:=IntWalk.i64_in _ (by omega)
        go_wp2_with fail
        first | (go_region_with (first | (go_at_call 7; (with_reducible refine (HP3.out _).mono ?_); rintro e wk ⟨rfl,rfl⟩) | (go_at_call 17; (with_reducible refine (HX1.out _ ?_).mono ?_); (first | exact hbl | exact b_drew hbl); rintro e w7 ⟨x,d,B,m,cp,a2,rfl,hx,hisx,ha2,hg7,hgr7⟩; obtain ⟨c7,f7,l7⟩:=HCells.out w7 (by first | exact hgr7 | exact (Gr.of_below (b_drew (Below.refl _ _))).trans hgr7)))) | (fail)
        all_goals
         have hgr8:Gr (w.heap.size + 1) W8 w7:=(by first | exact hgr7 | exact (Gr.of_below (b_drew (Below.refl _ _))).trans hgr7)
         have hF:=HFin.out x d B m cp a2 w7 _ hgr8 (HSrc.out x a2 (by rw [if_neg (by omega),if_pos (by omega)]; exact hx)) hisx (by omega) hg7 rfl
         have HF:=Lib.hid hF
         clear hF hx hisx ha2 hg7 hgr7 hgr8
         go_wp2_with fail
         go_meet
         exact HF.out
       ·obtain rfl:p1=0:=by omega
        have hz:=HZero.out (by omega) (by omega) W8 rfl
        have HZ:=Lib.hid hz
        clear hz
        go_wp2_with fail
        go_meet
        exact HZ.out
     case rest =>
      obtain ⟨W9,rfl⟩:∃ V,V=wc:=⟨_,rfl⟩
      obtain ⟨x,d,B,m,cp,a2,hblk,hsrc,hisx,ha2,hg2,hgr2⟩:=hcut
      have hs9:=hgr2.size
      have hbox:W9.heap[w.heap.size + 2]?=some (.cells #[v,.slice none 0 0] 29 (0,0)):=(hgr2.block _ (by omega) (fun e => by injection e; omega)).trans HI.out.box
      have y0:W9.cell? ⟨w.heap.size + 2,0,none⟩=some v:=by simp [World.cell?,hbox]
      have hown:=HI.out.own.kept hgr2 (.inr (HI.out.far _ (by omega)).symm)
      have q0:W9.cell? ⟨B8,0,none⟩=some (.string (nmK k)):=by simp [World.cell?,hblk]
      have q1:W9.cell? ⟨B8,1,none⟩=some (.int .i64 (1 + p1)):=by simp [World.cell?,hblk]
      have q2:W9.cell? ⟨B8,2,none⟩=some (.int .i64 (1 + p2)):=by simp [World.cell?,hblk]
      have q3:W9.cell? ⟨B8,3,none⟩=some (.int .i64 d.op):=by simp [World.cell?,hblk]
      have q4:W9.cell? ⟨B8,4,none⟩=some (.int .i64 d.k):=by simp [World.cell?,hblk]
      have q5:W9.cell? ⟨B8,5,none⟩=some (.int .i64 d.n):=by simp [World.cell?,hblk]
      have q6:W9.cell? ⟨B8,6,none⟩=some (.string d.s):=by simp [World.cell?,hblk]
      have q7:W9.cell? ⟨B8,7,none⟩=some (.string d.nm):=by simp [World.cell?,hblk]
      have q8:W9.cell? ⟨B8,8,none⟩=some (.slice B m cp):=by simp [World.cell?,hblk]
      have hstep:∀ (gg cap:Nat) (w6:World) (tmp:Obj),w6.ownsRow (B1 + 1) 47 9 (.slice (some ⟨gg,0,none⟩) (k + 1) cap) (k + 1) (feC es ++ [.string (nmK k),.int .i64 (1 + p1),.int .i64 (1 + p2),.int .i64 d.op,.int .i64 d.k,.int .i64 d.n,.string d.s,.string d.nm,.slice B m cp])->(W9.alloc tmp).grownBy w6 v.ownBlock->(v.ownBlock=some gg ∨ gg=W9.heap.size + 1) →
        FoI w B1 A rs c R0 (k + 1) (es ++ [⟨nmK k,1 + p1,1 + p2,x,B,m,cp⟩]) (.slice (some ⟨gg,0,none⟩) (k + 1) cap) a2 (w6.setCell ⟨w.heap.size + 2,0,none⟩ (.slice (some ⟨gg,0,none⟩) (k + 1) cap)):=fun gg cap w6 tmp h1 h2 h3 =>
       HI.out.step (by rw [HR.out]; dsimp only; rw [HPk.out.1]) (by rw [HR.out]; dsimp only; rw [HPk.out.2.1]) hsrc hisx ha2 hg2 hgr2 h1 h2 h3
      have hkeep:∀ (w6:World) (tmp:Obj),(W9.alloc tmp).grownBy w6 v.ownBlock->(∀ o,w6.cell? ⟨w.heap.size + 2,o,none⟩=(#[v,.slice none 0 0]:Array Value)[o]?)/\∀ o,w6.frozen? ⟨w.heap.size + 2,o,none⟩=false:=fun w6 tmp h2 => by
       have h6:w6.heap[w.heap.size + 2]?=_:=(app_keep h2 (by omega) (HI.out.far _ (by omega))).trans hbox
       exact ⟨fun o => by simp [World.cell?,h6],fun o => by simp [World.frozen?,h6]⟩
      have HStep:=Lib.hid hstep
      have HKeep:=Lib.hid hkeep
      have HOwn:=Lib.hid hown
      have hk1:k<=9:=by omega
      have hb9:B1 + 1<=W9.heap.size:=by omega
      clear hblk hsrc hisx ha2 hg2 hgr2 hbox hstep hkeep hown d0 d1 z8 z9
      go_wp2_with (at_builtin; refine wpList_append_lies _ rfl _ _ 26 rfl (B1 + 1) 47 i0 _ 9 112 Tryz.underlying26 hi hz0 hz1 hz2 rfl (by decide) v k (feC es) rfl (HOwn.out.alloc _) ⟨W9.heap.size,0,none⟩ 1 1 [.string (nmK k),.int .i64 (1 + p1),.int .i64 (1 + p2),.int .i64 d.op,.int .i64 d.k,.int .i64 d.n,.string d.s,.string d.nm,.slice B m cp] rfl rfl (World.news_of_block (cs:=#[.string (nmK k),.int .i64 (1 + p1),.int .i64 (1 + p2),.int .i64 d.op,.int .i64 d.k,.int .i64 d.n,.string d.s,.string d.nm,.slice B m cp]) (t:=47) (fr:=(0,0)) (World.alloc_heap_new W9 _)) (by simp [Value.oneCell']) (by decide) (by unfold maxLen; omega) (by omega) (by simp; omega) (W9.heap.size + 1) (by simp) ?_)
      intro gg cap w6 hown6 hgrow6 hat6 hlt6
      obtain ⟨y0,yf⟩:=HKeep.out w6 _ hgrow6
      have hN:=HStep.out gg cap w6 _ hown6 hgrow6 hat6
      have hRw:=HR00.out.below hN.below
      have HN:=Lib.hid hN
      have HRw:=Lib.hid hRw
      clear hN hRw hown6 hgrow6 hat6 hlt6
      go_wp2_with fail
      go_roundw
      case rel => exact ⟨k + 1,_,_,a2,by go_num,by omega,HN.out,HRw.out⟩
      case measure => simp [intOf]; omega
   ·have hkk:k=N:=by omega
    subst hkk
    obtain ⟨FA,fc,rfl,hfl⟩:=own_flds hI.own hI.len
    have hlen:=hI.len
    have hfl9:(es.map FE.fd).length=k:=by rw [List.length_map]; exact hlen
    rw [hfl9] at hI HI
    obtain ⟨Wp,rfl⟩:∃ V,V=wr:=⟨_,rfl⟩
    obtain ⟨p4,hp4⟩:∃ p,pick R0.y 4=p:=⟨_,rfl⟩
    have b4:=pick_bd R0.y 4 (by decide)
    have hP4:=fun V => picked_any R0.y 4 V HKr.out.2 (by decide) (by decide)
    rw [hp4] at b4 hP4
    obtain ⟨b40,b41⟩:=b4
    obtain ⟨n,hn⟩:∃ n,pageN rs=n:=⟨_,rfl⟩
    have hn4:(1 + p4:Int)=(n:Int):=by
     rw [← hn,← hp4]; unfold pageN; rw [HR0.out]
     have:=pick_bd R0.y 4 (by decide)
     omega
    have hnb:=pageN_bd rs
    rw [hn] at hnb
    obtain ⟨hnb0,hnb1⟩:=hnb
    have hw4:IntKind.i64.wrap (1 + p4)=(n:Int):=by rw [IntWalk.i64_in _ (by omega)]; exact hn4
    have hB1l:=(Array.getElem?_eq_some_iff.1 hI.fst).1
    have hltB:=hI.lt
    have e0:Wp.cell? ⟨B1,2,none⟩=some (.int .i64 R0.y):=by simp [World.cell?,hI.fst]
    have hPg:PgI (w.heap.size + 1) (w.heap.size + 2) Wp A rs c (es.map FE.v) (.slice FA k fc) n a 0 [] (.slice none 0 0) a Wp :=
     ⟨World.ownsRow_nil _ _ _ _,rfl,rfl,by omega,fun e he => absurd he (by simp),hI.gen,hI.box,Kp2.refl _ _ _,by omega,by omega,by omega⟩
    have HPg:=Lib.hid hPg
    have HP4:=Lib.hid hP4
    have HNp:=Lib.hid hn
    have HFl:=Lib.hid hfl
    have HNmS:=Lib.hid hI.nmsz
    have HRp:=Lib.hid hrr
    have hfew:=hI.few
    clear hP4 hp4 hPg hn hfl hn4 hI hrr
    go_wp2_with fail
    refine (HP4.out _).mono ?_; rintro e w9 ⟨rfl,rfl⟩
    go_wp2_with fail
    go_loopw [10,11,12,13,14,78] (fun _ _ _ _ _ ii wq => ∃ (i:Nat) (ps:List PE) (u:Value) (a3:Nat),ii=.int .i64 i/\i<=n/\PgI (w.heap.size + 1) (w.heap.size + 2) Wp A rs c (es.map FE.v) (.slice FA k fc) n a i ps u a3 wq) (fun _ _ _ _ _ i _ => n - (intOf i).toNat)
    case atStart => exact ⟨0,[],_,a,rfl,by omega,HPg.out⟩
    case round =>
     obtain ⟨i,ps,u,a3,rfl,hin,hP⟩:=hrel
     obtain ⟨Wq,rfl⟩:∃ V,V=wr:=⟨_,rfl⟩
     have HP:=Lib.hid hP
     have hrq:RawsV Wq A rs c:=HRp.out.keep fun p v0 v1 v2 h0 h2 => by
      have hg2:=HPg.out.gen
      have hbx:=HPg.out.box
      refine hP.kp.block _ (cell_lt' h0) (fun e => ?_) (fun e => ?_)
      ·rw [e,hg2.none2] at h2; cases h2
      ·rw [e] at h2; simp [World.cell?,hbx] at h2
     by_cases hlt:i < n
     ·have hnx:=nextV_any (w.heap.size + 1) c a3 A rs Wq hP.gen hrq (by have:=hP.few; omega)
      unfold NextV at hnx
      obtain ⟨R,hR⟩:∃ R,nextV rs a3=R:=⟨_,rfl⟩
      rw [hR] at hnx
      obtain ⟨a4,ha4⟩:∃ q,nextA rs a3=q:=⟨_,rfl⟩
      have ha4b:a4<=a3 + 1:=by rw [← ha4]; unfold nextA; split <;> omega
      rw [ha4] at hnx
      obtain ⟨K,X,Y,T⟩:=R
      simp only at hnx
      have HNx:=Lib.hid hnx
      have HR:=Lib.hid hR
      have HA4:=Lib.hid ha4
      have hfew3:=hP.few
      have hgF:=hP.gF
      obtain ⟨hgF0,hgF1,hgF2⟩:=hgF
      have hkps:=hP.kp.size
      have hszW:w.heap.size + 3<=Wp.heap.size:=by omega
      have HRq:=Lib.hid hrq
      clear hnx hR ha4 hP hrq
      go_wp2_with fail
      refine HNx.out.mono ?_; rintro e w3 ⟨rfl,⟨k0,k1,k2,k3⟩,hg3,hgr3⟩
      simp only at k0 k1 k2 k3
      obtain ⟨pk,hpk⟩:∃ p,pick K 2=p:=⟨_,rfl⟩
      have hPk:=fun V => picked_any K 2 V k0 (by decide) (by decide)
      rw [hpk] at hPk
      have HPk:=Lib.hid hPk
      have Hpk:=Lib.hid hpk
      clear hPk hpk
      obtain ⟨B3,hB3⟩:∃ B,w3.heap.size=B:=⟨_,rfl⟩
      obtain ⟨W3,hW3⟩:∃ V,w3.alloc (.cells #[.int .i64 K,.int .i64 X,.int .i64 Y,.string T] 56)=V:=⟨_,rfl⟩
      have HB3:=Lib.hid hB3
      have HW3:=Lib.hid hW3
      clear hB3 hW3
      go_upto_region 21 with fail
      rw [HW3.out,HB3.out]
      go_cut [12] (fun s12 wx => ∃ B4:Nat,s12=.pointer (some ⟨B4,0,none⟩)/\W3.heap.size<=B4/\wx.heap[B4]?=some (.cells #[.string (pgName i),.slice none 0 0,.int .i64 0,.int .i64 0,.int .i64 0,.string ⟨#[]⟩,.string ⟨#[]⟩,.slice none 0 0] 50 (0,0))/\Below W3.heap.size W3 wx)
      case first =>
       obtain rfl | rfl | rfl | rfl:i=0 ∨ i=1 ∨ i=2 ∨ i=3:=by omega
       all_goals
        have hcb0:(convert 60 9 (.slice (some ⟨W3.heap.size,0,none⟩) 1 1)).run Tryz.prog (W3.alloc (.cells #[.int .u8 49] 5))=.ok (.string ⟨#[49]⟩) (W3.alloc (.cells #[.int .u8 49] 5)):=one_byte W3 49
        have hcb1:(convert 60 9 (.slice (some ⟨W3.heap.size,0,none⟩) 1 1)).run Tryz.prog (W3.alloc (.cells #[.int .u8 50] 5))=.ok (.string ⟨#[50]⟩) (W3.alloc (.cells #[.int .u8 50] 5)):=one_byte W3 50
        have hcb2:(convert 60 9 (.slice (some ⟨W3.heap.size,0,none⟩) 1 1)).run Tryz.prog (W3.alloc (.cells #[.int .u8 51] 5))=.ok (.string ⟨#[51]⟩) (W3.alloc (.cells #[.int .u8 51] 5)):=one_byte W3 51
        have hcb3:(convert 60 9 (.slice (some ⟨W3.heap.size,0,none⟩) 1 1)).run Tryz.prog (W3.alloc (.cells #[.int .u8 52] 5))=.ok (.string ⟨#[52]⟩) (W3.alloc (.cells #[.int .u8 52] 5)):=one_byte W3 52
        go_wp2_with fail
        go_meet
        exact ⟨W3.heap.size + 1,rfl,by omega,(new2 W3 _ _ _).trans (congrArg (fun s => some (Obj.cells #[.string s,.slice none 0 0,.int .i64 0,.int .i64 0,.int .i64 0,.string ⟨#[]⟩,.string ⟨#[]⟩,.slice none 0 0] 50 (0,0))) (by first | rfl | decide)),b_more (b_new _ _) _⟩
      case rest =>
       obtain ⟨W4,rfl⟩:∃ V,V=wc:=⟨_,rfl⟩
       obtain ⟨B4,rfl,hB4,hblk,hbc⟩:=hcut
       have hb3:=b_new w3 (.cells #[.int .i64 K,.int .i64 X,.int .i64 Y,.string T] 56)
       have hbx3:=World.alloc_heap_new w3 (.cells #[.int .i64 K,.int .i64 X,.int .i64 Y,.string T] 56)
       rw [HW3.out] at hb3 hbx3
       rw [HB3.out] at hbx3
       have hgrW:Gr (w.heap.size + 1) Wq W4:=hgr3.trans ((Gr.of_below hb3).trans (Gr.of_below hbc))
       have hgW:RawL.Gen W4 (w.heap.size + 1) A rs.length c a4:=(hg3.below hb3).below hbc
       have hs3:=hb3.size
       have hs4:=hbc.size
       have hsr:=hgr3.size
       have hbxr:W4.heap[B3]?=some (.cells #[.int .i64 K,.int .i64 X,.int .i64 Y,.string T] 56 (0,0)):=(hbc.block _ (Array.getElem?_eq_some_iff.1 hbx3).1).trans hbx3
       have hB3l:B3 < W3.heap.size:=(Array.getElem?_eq_some_iff.1 hbx3).1
       have hB4l:B4 < W4.heap.size:=(Array.getElem?_eq_some_iff.1 hblk).1
       have hB3e:w3.heap.size<=B3:=Nat.le_of_eq HB3.out
       have hboxF:W4.heap[w.heap.size + 2]?=some (.cells #[.slice FA k fc,u] 29 (0,0)):=(hgrW.block _ (by omega) (fun e => by injection e; omega)).trans HP.out.box
       have y0:W4.cell? ⟨w.heap.size + 2,0,none⟩=some (.slice FA k fc):=by simp [World.cell?,hboxF]
       have hI0:PnI W4 B4 k n i (es.map FE.v) (pgName i) 0 [] (.slice none 0 0) W4:=⟨by omega,rfl,World.ownsRow_nil _ _ _ _,hblk,Below.refl _ _⟩
       have hkeep:∀ wq,Below B4 W4 wq->∀ b,b < Wp.heap.size->b ≠ w.heap.size + 1->b ≠ w.heap.size + 2->wq.heap[b]?=Wp.heap[b]?:=fun wq hq b h0 h1 h2 =>
        (hq.block b (by omega)).trans ((hgrW.block b (by omega) (fun e => by injection e; omega)).trans (HP.out.kp.block b h0 h1 h2))
       have hflq:∀ wq,Below B4 W4 wq->Flds wq FA (es.map FE.fd):=fun wq hq => flds_kp HFl.out HPg.out.gen HPg.out.box (hkeep wq hq)
       have HI0:=Lib.hid hI0
       have HFlq:=Lib.hid hflq
       have HGrW:=Lib.hid hgrW
       have HGW:=Lib.hid hgW
       have HBxr:=Lib.hid hbxr
       have HBoxF:=Lib.hid hboxF
       have HKq:=Lib.hid hkeep
       clear hI0 hkeep hflq hgrW hgW hbxr hboxF hb3 hbx3 hblk hbc hg3 hgr3
       obtain ⟨s0,hsi,hsz0,hsz1,hsz2⟩:=info_parts infoStr_
       go_wp2_with fail
       go_loopw [13,14,93] (fun _ _ jj wq => ∃ (j:Nat) (names:List ByteArray) (u2:Value),jj=.int .i64 j/\PnI W4 B4 k n i (es.map FE.v) (pgName i) j names u2 wq) (fun _ _ i _ => k - (intOf i).toNat)
       case atStart => exact ⟨0,[],_,rfl,HI0.out⟩
       case round =>
        obtain ⟨j,names,u2,rfl,hQ⟩:=hrel
        have hjk:=hQ.le
        have HQ:=Lib.hid hQ
        by_cases hltj:j < k
        ·obtain ⟨ad,rfl,hat⟩:=HFlq.out wr hQ.below j (by rw [List.length_map]; omega)
         obtain ⟨q0,q1,q2,q3,q4,q5,q6,q7,q8⟩:=hat
         have hje:j < es.length:=by omega
         have hfv:(es.map FE.v)[j]?=some (es[j].v):=by rw [List.getElem?_map,List.getElem?_eq_getElem hje]; rfl
         rw [List.getElem_map] at q0 q1 q2 q3 q4 q5 q6 q7 q8
         obtain ⟨f,hfk⟩:∃ f,es[j].fd=f:=⟨_,rfl⟩
         have hfn:(es[j].v).nm=f.nm:=by rw [← hfk]; rfl
         rw [hfk] at q0 q1 q2 q3 q4 q5 q6 q7 q8
         generalize es[j].v=fv at hfv hfn
         have r0:(0:Int)<=(j:Int):=by omega
         have r1:(0:Int) < (n:Int) + 1:=by omega
         have r2:((n:Int) + 1 == 0)=false:=beq_eq_false_iff_ne.2 (by omega)
         have r3:¬ ((n:Int) + 1=0):=by omega
         have hmod:(j:Int) % ((n:Int) + 1)=((j % (n + 1):Nat):Int):=by rw [Int.natCast_emod,Int.natCast_add]; rfl
         have hs8:=hQ.below.size
         have hk9:k<=10:=by omega
         have z1:wr.cell? ⟨B4,1,none⟩=some u2:=by simp [World.cell?,hQ.box]
         have HFv:=Lib.hid (And.intro hfv hfn)
         clear hQ hfk hfv hfn
         by_cases hmi:j % (n + 1)=i
         ·have t1:((j:Int) % ((n:Int) + 1) == (i:Int))=true:=by rw [hmod,hmi]; simp
          have hnl:=onV_len (es.map FE.v) n i j
          have hnm9:=HQ.out.nms
          rw [← hnm9] at hnl
          have hown:=(HQ.out.own.alloc (.cells #[.string f.nm,.int .i64 f.kind,.int .i64 f.ty,.int .i64 f.d.op,.int .i64 f.d.k,.int .i64 f.d.n,.string f.d.s,.string f.d.nm,.slice f.A f.n f.c] 47)).alloc (.cells #[.string f.nm] 9)
          have hkp9:∀ (w6:World) (o1 o2:Obj),((wr.alloc o1).alloc o2).grownBy w6 u2.ownBlock->(∀ o,w6.cell? ⟨B4,o,none⟩=(#[.string (pgName i),u2,.int .i64 0,.int .i64 0,.int .i64 0,.string ⟨#[]⟩,.string ⟨#[]⟩,.slice none 0 0]:Array Value)[o]?)/\∀ o,w6.frozen? ⟨B4,o,none⟩=false:=fun w6 o1 o2 hg => by
           have hbl:=(Array.getElem?_eq_some_iff.1 HQ.out.box).1
           have h6:w6.heap[B4]?=_:=(hg.block _ (by simp; omega) (fun e => by have:=(HQ.out.own.lt B4 e.symm).1; omega)).trans (((b_new (wr.alloc o1) o2).block _ (by simp; omega)).trans (((b_new wr o1).block _ hbl).trans HQ.out.box))
           exact ⟨fun o => by simp [World.cell?,h6],fun o => by simp [World.frozen?,h6]⟩
          have HKp9:=Lib.hid hkp9
          have HMi:=Lib.hid hmi
          clear hmod hmi hkp9 hnm9
          have hB4w:B4 < wr.heap.size:=by omega
          go_wp2_with (at_builtin; refine wpList_append_lies _ rfl _ _ 31 rfl (B4 + 1) 9 s0 (.string ⟨#[]⟩) 1 16 Tryz.underlying31 hsi hsz0 hsz1 hsz2 rfl (by decide) u2 names.length (names.map Value.string) rfl hown ⟨wr.heap.size + 1,0,none⟩ 1 1 [.string f.nm] rfl rfl (World.news_of_block (cs:=#[.string f.nm]) (t:=9) (fr:=(0,0)) (new2 wr _ _ _)) (by simp [Value.oneCell']) (by decide) (by unfold maxLen; omega) (by omega) (by simp; omega) (wr.heap.size + 2) (by simp) ?_)
          intro gg cap w6 hown6 hgrow6 hat6 hlt6
          obtain ⟨y9,yf⟩:=HKp9.out w6 _ _ hgrow6
          have hN:=HQ.out.step hltj hB4l HMi.out HFv.out.1 (by rw [HFv.out.2]; exact hown6) hgrow6
          rw [HFv.out.2] at hN
          have HN:=Lib.hid hN
          clear hN hown6 hgrow6 hat6 hlt6 hown
          go_wp2_with fail
          go_roundw
          case rel => exact ⟨j + 1,_,_,by go_num,HN.out⟩
          case measure => simp [intOf]; omega
         ·have t1:((j:Int) % ((n:Int) + 1) == (i:Int))=false:=by
           rw [hmod]
           exact beq_eq_false_iff_ne.2 fun e => hmi (Int.ofNat.inj e)
          have hN:=HQ.out.skip (o:=.cells #[.string f.nm,.int .i64 f.kind,.int .i64 f.ty,.int .i64 f.d.op,.int .i64 f.d.k,.int .i64 f.d.n,.string f.d.s,.string f.d.nm,.slice f.A f.n f.c] 47) hltj hB4l hmi
          have HN:=Lib.hid hN
          clear hN hmod hmi
          go_wp2_with fail
          go_roundw
          case rel => exact ⟨j + 1,names,u2,by go_num,HN.out⟩
          case measure => simp [intOf]; omega
        ·obtain rfl:j=k:=by omega
         obtain ⟨W5,rfl⟩:∃ V,V=wr:=⟨_,rfl⟩
         obtain ⟨A2,c2,rfl,hstr⟩:=own_str hQ.own rfl
         have hc2:=(own_cap hQ.own).1
         have hnms:=hQ.nms
         have hnl:=onV_len (es.map FE.v) n i j
         rw [← hnms] at hnl
         have hs5:=hQ.below.size
         have hgr5:Gr (w.heap.size + 1) Wq W5:=gr_below HGrW.out hQ.below (by omega)
         have hg5:RawL.Gen W5 (w.heap.size + 1) A rs.length c a4:=(hQ.below.block _ (by omega)).trans HGW.out
         have hfl5:=HFlq.out W5 hQ.below
         have hr5:RawsV W5 A rs c:=Gr.rawsV hgr5 HP.out.gen HRq.out
         have hb5:=hQ.box
         have hbF5:W5.heap[w.heap.size + 2]?=some (.cells #[.slice FA j fc,u] 29 (0,0)):=(hQ.below.block _ (by omega)).trans HBoxF.out
         have hr3:W5.cell? ⟨B3,0,none⟩=some (.int .i64 K):=by
          have e1:W5.heap[B3]?=_:=(hQ.below.block _ (by omega)).trans HBxr.out
          simp [World.cell?,e1]
         have y5:W5.cell? ⟨w.heap.size + 2,0,none⟩=some (.slice FA j fc):=by simp [World.cell?,hbF5]
         have hB45:B4 < W5.heap.size:=by omega
         have hcells:∀ V:World,Gr (w.heap.size + 1) W5 V->V.heap[B4]?=some (.cells #[.string (pgName i),.slice A2 names.length c2,.int .i64 0,.int .i64 0,.int .i64 0,.string ⟨#[]⟩,.string ⟨#[]⟩,.slice none 0 0] 50 (0,0)):=fun V hV => (hV.block _ hB45 (fun e => by injection e; omega)).trans hb5
         have hskip:∀ x a2,(if pk=0 then (x,a2)=exprV rs (fvs (es.map FE.v)) 1 2 a4 else (x,a2)=(zeroX,a4))->(x,a2)=skipV rs (es.map FE.v) a3:=fun x a2 h => by
          unfold skipV
          rw [HR.out,HA4.out]
          dsimp only
          rw [Hpk.out]
          by_cases h2:pk=0
          ·rw [if_pos h2] at h ⊢; exact h
          ·rw [if_neg h2] at h ⊢; exact h
         have hstr5:StrP (fun b => Wq.heap.size<=b/\b ≠ B4/\b ≠ w.heap.size + 1) W5 A2 names:=hstr.keep (fun _ _ _ => rfl) (fun b hb hl => by omega)
         have hfin:∀ (x:Ex) (d:Nd) (B:Option Addr) (m cp a2:Nat) (V wx:World),Gr (w.heap.size + 1) W5 V->(x,a2)=skipV rs (es.map FE.v) a3->IsP (fun b => W5.heap.size<=b) V x d B m->a2<=a3 + 9->RawL.Gen V (w.heap.size + 1) A rs.length c a2->wx=((((((V.setCell ⟨B4,2,none⟩ (.int .i64 d.op)).setCell ⟨B4,3,none⟩ (.int .i64 d.k)).setCell ⟨B4,4,none⟩ (.int .i64 d.n)).setCell ⟨B4,5,none⟩ (.string d.s)).setCell ⟨B4,6,none⟩ (.string d.nm)).setCell ⟨B4,7,none⟩ (.slice B m cp)) →
           ∃ (x:Ex) (d:Nd) (B:Option Addr) (m cp a2:Nat),wx.heap[B4]?=some (.cells #[.string (pgName i),.slice A2 names.length c2,.int .i64 d.op,.int .i64 d.k,.int .i64 d.n,.string d.s,.string d.nm,.slice B m cp] 50 (0,0))/\(x,a2)=skipV rs (es.map FE.v) a3/\IsP (fun b => Wq.heap.size<=b) wx x d B m/\a2<=a3 + 9/\RawL.Gen wx (w.heap.size + 1) A rs.length c a2/\Gr (w.heap.size + 1) Wq wx/\StrP (fun b => Wq.heap.size<=b) wx A2 names:=fun x d B m cp a2 V wx hV hx hi ha hg hw => by
          have h8:=hcells V hV
          have hsV:=hV.size
          have hsq:=hgr5.size
          refine ⟨x,d,B,m,cp,a2,?_,hx,?_,ha,?_,?_,?_⟩
          ·rw [hw]; exact blk_set (blk_set (blk_set (blk_set (blk_set (blk_set h8 2 _) 3 _) 4 _) 5 _) 6 _) 7 _
          ·rw [hw]
           exact IsP.keep (fun b hb hl9 => set6p_heap (by omega) _ _ _ _ _ _) (fun b hb hl9 => by omega) _ _ _ _ hi
          ·rw [hw]
           repeat' (first | (with_reducible exact hg) | (with_reducible refine Gen.far ?_ ?_ _) | (dsimp only; omega))
          ·rw [hw]
           have hh:=hgr5.trans hV
           repeat' (first | (with_reducible exact hh) | (with_reducible refine Gr.set ?_ ?_) | (dsimp only; omega))
          ·rw [hw]
           exact hstr5.keep (fun b hb hl9 => (set6p_heap hb.2.1 _ _ _ _ _ _).trans (hV.block b hl9 (fun e => by injection e with e; exact hb.2.2 e))) (fun b hb _ => hb.1)
         have hzero:pk ≠ 0->∀ wx,wx=W5->∃ (x:Ex) (d:Nd) (B:Option Addr) (m cp a2:Nat),wx.heap[B4]?=some (.cells #[.string (pgName i),.slice A2 names.length c2,.int .i64 d.op,.int .i64 d.k,.int .i64 d.n,.string d.s,.string d.nm,.slice B m cp] 50 (0,0))/\(x,a2)=skipV rs (es.map FE.v) a3/\IsP (fun b => Wq.heap.size<=b) wx x d B m/\a2<=a3 + 9/\RawL.Gen wx (w.heap.size + 1) A rs.length c a2/\Gr (w.heap.size + 1) Wq wx/\StrP (fun b => Wq.heap.size<=b) wx A2 names:=fun h2 wx hw => by
          refine ⟨zeroX,zeroN,none,0,0,a4,by rw [hw]; exact hb5,hskip _ _ (by rw [if_neg h2]),isP_leaf _ _ _ _ (Nat.zero_le _) (Nat.zero_le _),by omega,by rw [hw]; exact hg5,by rw [hw]; exact hgr5,by rw [hw]; exact hstr5.keep (fun _ _ _ => rfl) (fun b hb _ => hb.1)⟩
         have hfs:∀ f ∈ es.map FE.fd,f.nm.size<=maxLen:=HNmS.out
         have hfn:(es.map FE.fd).length<=1000000:=by rw [List.length_map]; omega
         have hE1:=exprV_all 1 (by decide) (w.heap.size + 1) c a4 fc A FA rs (es.map FE.fd) 2 W5 hg5 hr5 hfl5 hfn hfs
         have hc1:cost 1=8:=rfl
         rw [nts_fe,hc1,List.length_map,hlen] at hE1
         have hx1:=hE1 (by omega)
         have HX1:=Lib.hid hx1
         have HFin:=Lib.hid hfin
         have HZero:=Lib.hid hzero
         have HCells:=Lib.hid hcells
         have HSkip:=Lib.hid hskip
         have HNms:=Lib.hid hnms
         have HBF5:=Lib.hid hbF5
         clear hstr hnms hnl hgr5 hg5 hfl5 hr5 hb5 hbF5 hcells hskip hstr5 hfin hzero hfs hfn hE1 hc1 hx1 hQ
         go_upto_if 115 with (go_at_call 7; (with_reducible refine (HPk.out _).mono ?_); rintro e w9 ⟨rfl,rfl⟩)
         go_cut [] (fun wx => ∃ (x:Ex) (d:Nd) (B:Option Addr) (m cp a2:Nat),wx.heap[B4]?=some (.cells #[.string (pgName i),.slice A2 names.length c2,.int .i64 d.op,.int .i64 d.k,.int .i64 d.n,.string d.s,.string d.nm,.slice B m cp] 50 (0,0))/\(x,a2)=skipV rs (es.map FE.v) a3/\IsP (fun b => Wq.heap.size<=b) wx x d B m/\a2<=a3 + 9/\RawL.Gen wx (w.heap.size + 1) A rs.length c a2/\Gr (w.heap.size + 1) Wq wx/\StrP (fun b => Wq.heap.size<=b) wx A2 names)
         case first =>
          by_cases h2:pk=0
          ·subst h2
           have hx:=HX1.out
           have HX:=Lib.hid hx
           clear hx
           go_wp2_with fail
           refine HX.out.mono ?_; rintro e w7 ⟨x,d,B,m,cp,a2,rfl,hx,hisx,ha2,hg7,hgr7⟩
           have h8:=HCells.out w7 hgr7
           have c7:∀ o,w7.cell? ⟨B4,o,none⟩=(#[.string (pgName i),.slice A2 names.length c2,.int .i64 0,.int .i64 0,.int .i64 0,.string ⟨#[]⟩,.string ⟨#[]⟩,.slice none 0 0]:Array Value)[o]?:=fun o => by simp [World.cell?,h8]
           have f7:∀ o,w7.frozen? ⟨B4,o,none⟩=false:=fun o => by simp [World.frozen?,h8]
           have l7:=hgr7.size
           have hF:=HFin.out x d B m cp a2 w7 _ hgr7 (HSkip.out x a2 (by rw [if_pos (by trivial)]; exact hx)) hisx (by omega) hg7 rfl
           have HF:=Lib.hid hF
           clear hF hx hisx ha2 hg7 hgr7 h8
           go_wp2_with fail
           go_meet
           exact HF.out
          ·have t2:(pk == 0)=false:=beq_eq_false_iff_ne.2 h2
           have hz:=HZero.out h2 W5 rfl
           have HZ:=Lib.hid hz
           clear hz h2
           go_wp2_with fail
           go_meet
           exact HZ.out
         case rest =>
          obtain ⟨W6,rfl⟩:∃ V,V=wc:=⟨_,rfl⟩
          obtain ⟨x,d,B,m,cp,a2,hblk,hsrc,hisx,ha2,hg2,hgr2,hstr2⟩:=hcut
          have hd:d=x.d:=ExS.is_d (IsP.is _ _ _ _ hisx)
          have hs9:=hgr2.size
          have hboxF:W6.heap[w.heap.size + 2]?=some (.cells #[.slice FA j fc,u] 29 (0,0)):=(hgr2.block _ (by omega) (fun e => by injection e; omega)).trans HP.out.box
          have y1:W6.cell? ⟨w.heap.size + 2,1,none⟩=some u:=by simp [World.cell?,hboxF]
          have hown:=HP.out.own.kept hgr2 (.inr (HP.out.far _ (by omega)).symm)
          have q0:W6.cell? ⟨B4,0,none⟩=some (.string (pgName i)):=by simp [World.cell?,hblk]
          have q1:W6.cell? ⟨B4,1,none⟩=some (.slice A2 names.length c2):=by simp [World.cell?,hblk]
          have q2:W6.cell? ⟨B4,2,none⟩=some (.int .i64 d.op):=by simp [World.cell?,hblk]
          have q3:W6.cell? ⟨B4,3,none⟩=some (.int .i64 d.k):=by simp [World.cell?,hblk]
          have q4:W6.cell? ⟨B4,4,none⟩=some (.int .i64 d.n):=by simp [World.cell?,hblk]
          have q5:W6.cell? ⟨B4,5,none⟩=some (.string d.s):=by simp [World.cell?,hblk]
          have q6:W6.cell? ⟨B4,6,none⟩=some (.string d.nm):=by simp [World.cell?,hblk]
          have q7:W6.cell? ⟨B4,7,none⟩=some (.slice B m cp):=by simp [World.cell?,hblk]
          have hnl:=onV_len (es.map FE.v) n i j
          have hstep:∀ (gg cap:Nat) (w6:World) (tmp:Obj),w6.ownsRow Wp.heap.size 50 8 (.slice (some ⟨gg,0,none⟩) (i + 1) cap) (i + 1) (peC ps ++ [.string (pgName i),.slice A2 names.length c2,.int .i64 d.op,.int .i64 d.k,.int .i64 d.n,.string d.s,.string d.nm,.slice B m cp])->(W6.alloc tmp).grownBy w6 u.ownBlock->(u.ownBlock=some gg ∨ gg=W6.heap.size + 1) →
            PgI (w.heap.size + 1) (w.heap.size + 2) Wp A rs c (es.map FE.v) (.slice FA j fc) n a (i + 1) (ps ++ [⟨pgName i,names,A2,c2,x,B,m,cp⟩]) (.slice (some ⟨gg,0,none⟩) (i + 1) cap) a2 (w6.setCell ⟨w.heap.size + 2,1,none⟩ (.slice (some ⟨gg,0,none⟩) (i + 1) cap)):=fun gg cap w6 tmp h1 h2 h3 => by
           subst hd
           exact HP.out.step rfl (by rw [List.length_map,hlen]; exact HNms.out) hsrc ⟨hstr2,hisx,by have:=HNms.out; show names.length<=10; rw [this]; omega,hc2⟩ ha2 hg2 hgr2 h1 h2 h3
          have hkeep:∀ (w6:World) (tmp:Obj),(W6.alloc tmp).grownBy w6 u.ownBlock->(∀ o,w6.cell? ⟨w.heap.size + 2,o,none⟩=(#[.slice FA j fc,u]:Array Value)[o]?)/\∀ o,w6.frozen? ⟨w.heap.size + 2,o,none⟩=false:=fun w6 tmp h2 => by
           have h6:w6.heap[w.heap.size + 2]?=_:=(app_keep h2 (by omega) (HP.out.far _ (by omega))).trans hboxF
           exact ⟨fun o => by simp [World.cell?,h6],fun o => by simp [World.frozen?,h6]⟩
          obtain ⟨p0,hpi,hpz0,hpz1,hpz2⟩:=info_parts infoPg
          have HStep:=Lib.hid hstep
          have HKeep:=Lib.hid hkeep
          have HOwn:=Lib.hid hown
          have hb9:Wp.heap.size<=W6.heap.size:=by omega
          clear hblk hsrc hisx ha2 hg2 hgr2 hboxF hstep hkeep hown hstr2 hd y0 y5 hr3
          go_wp2_with (at_builtin; refine wpList_append_lies _ rfl _ _ 27 rfl Wp.heap.size 50 p0 _ 8 120 Tryz.underlying27 hpi hpz0 hpz1 hpz2 rfl (by decide) u i (peC ps) rfl (HOwn.out.alloc _) ⟨W6.heap.size,0,none⟩ 1 1 [.string (pgName i),.slice A2 names.length c2,.int .i64 d.op,.int .i64 d.k,.int .i64 d.n,.string d.s,.string d.nm,.slice B m cp] rfl rfl (World.news_of_block (cs:=#[.string (pgName i),.slice A2 names.length c2,.int .i64 d.op,.int .i64 d.k,.int .i64 d.n,.string d.s,.string d.nm,.slice B m cp]) (t:=50) (fr:=(0,0)) (World.alloc_heap_new W6 _)) (by simp [Value.oneCell']) (by decide) (by unfold maxLen; omega) (by omega) (by simp; omega) (W6.heap.size + 1) (by simp) ?_)
          intro gg cap w6 hown6 hgrow6 hat6 hlt6
          obtain ⟨y1,yf⟩:=HKeep.out w6 _ hgrow6
          have hN:=HStep.out gg cap w6 _ hown6 hgrow6 hat6
          have HN:=Lib.hid hN
          clear hN hown6 hgrow6 hat6 hlt6
          go_wp2_with fail
          go_roundw
          case rel => exact ⟨i + 1,_,_,a2,by go_num,by omega,HN.out⟩
          case measure => simp [intOf]; omega
     ·obtain rfl:i=n:=by omega
      have hkk1:1<=k:=hN1
      rcases HI.out.own.2 with ⟨_,h2⟩ | ⟨g,cap,cur,hsl,hgb,hcl,hnc,hcm,hcs,htk⟩
      ·omega
      ·injection hsl with hsl1 hsl2 hsl3
       subst hsl1 hsl3
       have hgl:=(Array.getElem?_eq_some_iff.1 hcl).1
       have hcur:cur=(feC es ++ cur.toList.drop (k * 9)).toArray:=by rw [← htk,List.take_append_drop]
       have hkp:=hP.kp
       have hgF:=hP.gF
       have hrow:RowE Wq g es (cur.toList.drop (k * 9)):=by
        unfold RowE
        rw [← hcur]
        exact (hkp.block g hgl (by omega) (by omega)).trans hcl
       have hrl:(cur.toList.drop (k * 9)).length=(fc - k) * 9:=by rw [List.length_drop,Array.length_toList,hcs]; omega
       generalize cur.toList.drop (k * 9)=rest at hrow hrl
       have hres:Wq.heap[w.heap.size]?=some (.cells #[.slice none 0 0,.slice none 0 0] 29 (0,0)):=(hkp.block _ (by omega) (by omega) (by omega)).trans HI.out.res
       have hfst:Wq.heap[B1]?=some (.cells #[.int .i64 R0.k,.int .i64 R0.x,.int .i64 R0.y,.string R0.t] 56 (0,0)):=(hkp.block _ hB1l (by omega) (by omega)).trans HI.out.fst
       have hbx:=hP.box
       have hBw:Below w.heap.size w Wq:=⟨hkp.os.trans HI.out.below.os,hkp.tape.trans HI.out.below.tape,hkp.output.trans HI.out.below.output,by have:=HI.out.below.size; have:=hkp.size; omega,fun b hb => (hkp.block b (by have:=HI.out.below.size; omega) (by omega) (by omega)).trans (HI.out.below.block b hb)⟩
       have hes:∀ e ∈ es,IsP (fun b => B1 + 1<=b/\b ≠ g) Wq e.x e.x.d e.B e.m:=fun e he =>
        IsP.keep (fun b hb hl => hkp.block b hl (by omega) (by omega)) (fun b hb hl => ⟨hb.1,fun e => hb.2 (by rw [e]; rfl)⟩) _ _ _ _ (HI.out.is e he)
       obtain ⟨PA,pc,hu,hprow⟩:=prow_of hP.own hP.len hP.is
       subst hu
       have hpcap:=own_cap hP.own
       rw [← hP.len] at hpcap
       have hval:=hP.val
       have hplen:=hP.len
       have hFv:es.map FE.v=baseV rs:=by
        have:=HI.out.val; unfold baseV; rw [HNN.out,← this]
       have hPv:ps.map PE.v=formP rs:=by
        have h1:=HI.out.val
        unfold formP
        rw [HNp.out,HNN.out,← h1,← hFv]
        dsimp only
        rw [← hval]
       have f0:Wq.cell? ⟨B1,0,none⟩=some (.int .i64 R0.k):=by simp [World.cell?,hfst]
       have hres2:∀ V,Wq.grownBy V (some g)->(∀ o,V.cell? ⟨w.heap.size,o,none⟩=(#[.slice none 0 0,.slice none 0 0]:Array Value)[o]?)/\(∀ o,V.frozen? ⟨w.heap.size,o,none⟩=false)/\(∀ o,V.cell? ⟨w.heap.size + 2,o,none⟩=(#[.slice (some ⟨g,0,none⟩) k fc,.slice PA i pc]:Array Value)[o]?):=fun V hV => by
        have e1:V.heap[w.heap.size]?=_:=(hV.block _ (Array.getElem?_eq_some_iff.1 hres).1 (fun e => by injection e; omega)).trans hres
        have e2:V.heap[w.heap.size + 2]?=_:=(hV.block _ (Array.getElem?_eq_some_iff.1 hbx).1 (fun e => by injection e; omega)).trans hbx
        exact ⟨fun o => by simp [World.cell?,e1],fun o => by simp [World.frozen?,e1],fun o => by simp [World.cell?,e2]⟩
       have hfinal:∀ (V V':World) (es':List FE),Wq.grownBy V (some g)->RowE V g es' rest->es'.length=k->es'.map FE.v=formF rs->(∀ e ∈ es',e ∈ es)->V'=(V.setCell ⟨w.heap.size,0,none⟩ (.slice (some ⟨g,0,none⟩) k fc)).setCell ⟨w.heap.size,1,none⟩ (.slice PA i pc) →
         FormOut rs w (.returned (.agg #[.slice (some ⟨g,0,none⟩) k fc,.slice PA i pc])) V':=fun V V' es' hV hr hl hv hm hw => by
        have hk:∀ b,b ≠ w.heap.size->V'.heap[b]?=V.heap[b]?:=fun b hb => by
         rw [hw,Below.heap_setCell _ ⟨w.heap.size,1,none⟩ _ b hb,Below.heap_setCell _ ⟨w.heap.size,0,none⟩ _ b hb]
        refine ⟨es',_,fc,ps,PA,pc,by rw [hl,hplen],hv,hPv,?_,?_,?_,⟨by rw [hl]; exact hnc,hcm⟩,hpcap,?_,fun e he => IsP.keep (fun b hb hl9 => (hk b (by omega)).trans (hV.block b hl9 (fun e => by injection e with e; exact hb.2 e))) (fun b hb _ => ⟨by omega,fun e9 => hb.2 (by injection e9)⟩) _ _ _ _ (hes e (hm e he))⟩
        ·refine frow_of (w:=V) (rest:=rest) ((hk g (by omega)).trans hr) (by omega) fun e he => ?_
         exact IsP.keep (fun b hb hl9 => (hk b (by omega)).trans (hV.block b hl9 (fun e => by injection e with e; exact hb.2 e))) (fun b hb _ => by omega) _ _ _ _ (hes e (hm e he))
        ·refine hprow.keep (fun b hb hl9 => (hk b (by omega)).trans (hV.block b hl9 (fun e => by injection e; omega))) (fun b hb _ => by omega)
        ·have h1:Below w.heap.size w V:=⟨hV.os.trans hBw.os,hV.tape.trans hBw.tape,hV.output.trans hBw.output,Nat.le_trans hBw.size hV.size,fun b hb => (hV.block b (by have:=hBw.size; omega) (fun e => by injection e; omega)).trans (hBw.block b hb)⟩
         rw [hw]; exact (h1.setCell (Nat.le_refl _) _).setCell (Nat.le_refl _) _
        ·refine ⟨feC_len es',.inr ⟨g,fc,(feC es' ++ rest).toArray,by rw [hl],by omega,(hk g (by omega)).trans hr,by rw [hl]; exact hnc,hcm,?_,?_⟩⟩
         ·rw [List.size_toArray,List.length_append,feC_len,hrl,hl]; omega
         ·rw [← feC_len es']; exact List.take_left
       obtain ⟨p5,hp5⟩:∃ p,pick R0.k 2=p:=⟨_,rfl⟩
       have hP5:=fun V => picked_any R0.k 2 V HKr.out.1 (by decide) (by decide)
       rw [hp5] at hP5
       have hturn:turnB rs=decide (p5=0):=by unfold turnB; rw [HR0.out,hp5]
       have HP5:=Lib.hid hP5
       have HRes:=Lib.hid hres2
       have HFinal:=Lib.hid hfinal
       have HRow:=Lib.hid hrow
       have HTurn:=Lib.hid hturn
       have HFv:=Lib.hid hFv
       have gsz:w.heap.size < Wq.heap.size/\w.heap.size + 2 < Wq.heap.size:=⟨by have:=hkp.size; omega,by have:=hkp.size; omega⟩
       obtain ⟨gsz0,gsz1⟩:=gsz
       clear hnc hcm hpcap hcl hcs hrl htk hcur hkp hgF hrow hres hfst hbx hBw hes hprow hval hFv hPv hres2 hfinal hP5 hp5 hturn hP hrq
       by_cases h5:p5=0
       ·subst h5
        have hc:=reverse_any g fc es rest Wq HRow.out (by omega)
        rw [hlen] at hc
        have HC:=Lib.hid hc
        obtain ⟨_,_,m0⟩:=HRes.out Wq ⟨rfl,rfl,rfl,Nat.le_refl _,fun _ _ _ => rfl⟩
        clear hc
        go_wp2_with (go_at_call 7; (with_reducible refine (HP5.out _).mono ?_); rintro e w9 ⟨rfl,rfl⟩)
        refine HC.out.mono ?_; rintro e w8 ⟨rfl,hr8,hg8⟩
        obtain ⟨m1,m2,m3⟩:=HRes.out w8 hg8
        have hz8:=hg8.size
        have hz9:w.heap.size < w8.heap.size:=by omega
        have hF:=HFinal.out w8 _ es.reverse hg8 hr8 (by rw [List.length_reverse]; exact hlen) (by unfold formF; rw [HTurn.out,if_pos (by simp),← HFv.out,List.map_reverse]) (fun e he => by simpa using he) rfl
        have HF:=Lib.hid hF
        clear hF hr8 hg8 m0
        go_wp2_with fail
        refine bodyPost_ret (v:=.agg #[.slice (some ⟨g,0,none⟩) k fc,.slice PA i pc]) (by simp [results,Tryz.results5,go_sem,m1]) rfl HF.out
       ·have t5:(p5 == 0)=false:=beq_eq_false_iff_ne.2 h5
        have hg8:Wq.grownBy Wq (some g):=⟨rfl,rfl,rfl,Nat.le_refl _,fun _ _ _ => rfl⟩
        obtain ⟨m1,m2,m3⟩:=HRes.out Wq hg8
        have hF:=HFinal.out Wq _ es hg8 HRow.out hlen (by unfold formF; rw [HTurn.out,if_neg (by simpa using h5)]; exact HFv.out) (fun e he => he) rfl
        have HF:=Lib.hid hF
        clear hF hg8 h5
        go_wp2_with (go_at_call 7; (with_reducible refine (HP5.out _).mono ?_); rintro e w9 ⟨rfl,rfl⟩)
        refine bodyPost_ret (v:=.agg #[.slice (some ⟨g,0,none⟩) k fc,.slice PA i pc]) (by simp [results,Tryz.results5,go_sem,m1]) rfl HF.out
end Frm
end Go.Proofs.YtjhhmdmmllblhaaGreatDoor
