/- PsList PsAtom PsForm PsTop PsTot: what these laws name of them. -/
import Derived.Maps.AppendAt
import Derived.Deep.AppendLies
import Derived.Deep.DeepCutAuto
import Derived.Deep.CutBlock
import Derived.Test.YtdefaeieiaegaaaGreatDoorChecked
import Derived.WalkKit
import Derived.WalkSpells
import Derived.ProofKit
import Derived.Lib.Hide
import Derived.WalkLawsBesides
import Derived.BigQuiet
import Derived.Deep.RegionHeld3
import Derived.Deep.QuietTactic
import Derived.Deep.RegionWith
import Derived.ChangeOld
import Derived.Deep.DrawnRows
import Derived.RegionTactic
import Derived.BigRegion
import Derived.RegionDies
import Derived.Deep.RegionLaw
import Derived.LaidLaws
import Derived.ChangeArms
import Derived.Lib.LaidTab
import Derived.WideShapes
import GoSem.Claim
import Derived.Lib.Bytealg
import Derived.Lib.Small
import Derived.Lib.AtoiAll
import Derived.Below
import Derived.Deep.Draws
import Derived.Test.YtdefaeieiaegaaaGreatDoorProg
import Derived.Outline
import Derived.IntWalk
import Derived.Laws.OwnMore
import Derived.OwnWalk
import Derived.ChangeAlike
import Derived.RangeFuncNested
import Derived.RangeFuncBound
import Derived.RangeFuncCalls
import Derived.RangeFuncLeaves
import Derived.Shelf.Abstract
import Derived.Shelf.RegionOpen
import Derived.OwnWalkIn
import Derived.TacticsInMore
import Derived.LoopNIn
import Derived.LoopIn
import Derived.LaidMore
import Derived.RangeFuncBox
import Derived.WalkSmall
import Derived.Test.YtdefaeieiaegaaaGreatDoorKtE06
import Derived.Test.YtdefaeieiaegaaaGreatDoorKtE14
namespace Go.Proofs.YtdefaeieiaegaaaGreatDoor
set_option linter.unusedVariables false
namespace PsL
open Go.RowKit
open LexM ExM Kit ExL ExP PsM PsT NmC Ps PsR
set_option linter.unusedVariables false
theorem own_slice {w:World} {base:Nat} {e:TypeId} {size:Nat} {v:Value} {n:Nat} {xs:List Value} (h:w.ownsRow base e size v n xs):∃ A c,v=.slice A n c:=by
 rcases h.2 with ⟨h1,h2⟩ | ⟨g,cap,cur,h1,_⟩
 ·exact ⟨none,0,by rw [h2]; exact h1⟩
 ·exact ⟨some ⟨g,0,none⟩,cap,h1⟩
theorem own_form {w:World} {base:Nat} {e:TypeId} {size:Nat} {v:Value} {n:Nat} {xs:List Value} (h:w.ownsRow base e size v n xs) (hn:0 < n) :
  ∃ g cap,v=.slice (some ⟨g,0,none⟩) n cap/\base<=g/\g < w.heap.size/\n<=cap/\cap<=maxLen/\∀ j,j < n * size->w.cell? ⟨g,j,none⟩=xs[j]?:=by
 rcases h.2 with ⟨_,h2⟩ | ⟨g,cap,cur,h1,h2,h3,h4,h5,_⟩
 ·omega
 ·subst h1
  have hl:=h.lt g rfl
  exact ⟨g,cap,rfl,h2,hl.2,h4,h5,fun j hj => h.cellAt j hj⟩
theorem run_form_one:∀ (f:Nat) (j:Job) (ts:List Tk) (l:List Ex) (r:List Tk),(∀ n acc,j ≠ .list n acc)->run f j ts=.ok l r->∃ x,l=[x]
 | 0,j,ts,l,r,_,h => by simp [run] at h
 | f + 1,.form q,ts,l,r,_,h => by
  have hw:∀ (op:Nat) (o:Out) (l:List Ex) (r:List Tk),wrap op o=.ok l r->∃ x,l=[x]:=fun op o l r h => by
   cases o with
   | ok l' r' => simp only [wrap,Out.ok.injEq] at h; exact ⟨_,h.1.symm⟩
   | bad r' => simp [wrap] at h
   | tired => simp [wrap] at h
  unfold run at h
  split at h
  ·cases ts with
   | nil => simp at h
   | cons t r' =>
    simp only at h
    split at h
    ·exact hw _ _ _ _ h
    ·split at h
     ·rename_i h5 h40
      exact run_list_one f 1 [] r' l r (by simp) h
     ·split at h
      ·split at h
       ·exact hw _ _ _ _ h
       ·simp at h
      ·split at h
       ·simp only [Out.ok.injEq] at h; exact ⟨_,h.1.symm⟩
       ·simp at h
  ·split at h
   ·exact run_form_one f _ _ _ _ (fun n acc => by simp) h
   ·rename_i hne
    cases ho:run f (.form (q + 1)) ts with
    | ok l' r' =>
     obtain ⟨x,rfl⟩:=run_form_one f _ _ _ _ (fun n acc => by simp) ho
     exact absurd ho (hne x [] r')
    | bad r' => rw [ho] at h; simp at h
    | tired => rw [ho] at h; simp at h
 | f + 1,.loop q x,ts,l,r,_,h => by
  unfold run at h
  cases ts with
  | nil => simp only [Out.ok.injEq] at h; exact ⟨_,h.1.symm⟩
  | cons t r0 =>
   cases hop:PsM.opAt q t.s with
   | none => simp only [hop,Out.ok.injEq] at h; exact ⟨_,h.1.symm⟩
   | some op =>
    simp only [hop] at h
    cases ho:run f (.form (q + 1)) r0 with
    | ok l' r' =>
     obtain ⟨y,rfl⟩:=run_form_one f _ _ _ _ (fun n acc => by simp) ho
     simp only [ho] at h
     split at h
     ·simp only [Out.ok.injEq] at h; exact ⟨_,h.1.symm⟩
     ·exact run_form_one f _ _ _ _ (fun n acc => by simp) h
    | bad r' => rw [ho] at h; simp at h
    | tired => rw [ho] at h; simp at h
 | f + 1,.list n acc,ts,l,r,hn,h => absurd rfl (hn n acc)
where run_list_one:∀ (f n:Nat) (acc:List Ex) (ts:List Tk) (l:List Ex) (r:List Tk),acc.length + 1=n->run f (.list n acc) ts=.ok l r->∃ y,l=acc ++ [y]
 | 0,n,acc,ts,l,r,_,h => by simp [run] at h
 | f + 1,n,acc,ts,l,r,hn,h => by
  unfold run at h
  split at h
  ·rw [if_neg (by omega)] at h
   split at h
   ·simp only [Out.ok.injEq] at h; exact ⟨_,h.1.symm⟩
   ·simp at h
  ·rename_i hne
   cases ho:run f (.form 0) ts with
   | ok l' r' =>
    obtain ⟨x,rfl⟩:=run_form_one f _ _ _ _ (fun n acc => by simp) ho
    exact absurd ho (hne x [] r')
   | bad r' => rw [ho] at h; simp at h
   | tired => rw [ho] at h; simp at h
section
variable {w0:World} {P:Nat} {A:Option Addr} {c:Nat} {L:List Tk} {w:World} {k:Nat}
def Ends (w0:World) (P:Nat) (A:Option Addr) (c:Nat) (L:List Tk) (w:World) (k:Nat) (o:Out) (e:Ending) (w':World):Prop :=
 match o with
 | .ok [x] r => OkX w0 P A c L w k x r e w'
 | .bad r => BadX P w r e w'
 | _ => False
def FormC (w0:World) (P:Nat) (A:Option Addr) (c:Nat) (L:List Tk) (f:Nat):Prop:=∀ (q:Nat) (w:World) (k:Nat) (o:Out),q<=5->run f (.form q) (L.drop k)=o->o ≠ .tired->St w0 P A c L w k →
 Calls Tryz.prog 193 #[.pointer (some ⟨P,0,none⟩),.int .i64 (q:Int)] w (Ends w0 P A c L w k o)
def cont (f n:Nat) (l:List Ex) (r:List Tk):Out :=
 if l.length < n then (if isNext [44] r then run f (.list n l) r.tail else .bad r) else (if isNext [41] r then .ok l r.tail else .bad r)
theorem run_list (f n:Nat) (acc:List Ex) (ts:List Tk):run (f + 1) (.list n acc) ts=match run f (.form 0) ts with | .ok [x] r => cont f n (acc ++ [x]) r | o => o:=by
 cases ho:run f (.form 0) ts with
 | ok l r =>
  obtain ⟨x,rfl⟩:=run_form_one f _ _ _ _ (fun n acc => by simp) ho
  unfold cont
  simp only [run,ho,List.length_append,List.length_cons,List.length_nil,Nat.zero_add]
 | bad r => simp only [run,ho]
 | tired => simp only [run,ho]
structure LsI (w0:World) (P:Nat) (A:Option Addr) (c:Nat) (L:List Tk) (w:World) (k:Nat) (es:List El) (v:Value) (wr:World) (k':Nat):Prop where
 own:wr.ownsRow w.heap.size 50 6 v es.length (elC es)
 is:∀ e ∈ es,IsP (fun b => w.heap.size<=b/\some b ≠ v.ownBlock) wr e.x e.d e.A e.n
 st:St w0 P A c L wr k'
 grown:w.grownBy wr (some P)
 le:k<=k'
theorem own_ne {v:Value} {n:Nat} {xs:List Value} {wr:World} (hl:P < w.heap.size) (h:wr.ownsRow w.heap.size 50 6 v n xs):v.ownBlock ≠ some P:=fun e => by
 have:=(h.lt P e).1; omega
theorem LsI.keep {es:List El} {v:Value} {wr w1:World} {k' k2:Nat} (h:LsI w0 P A c L w k es v wr k') (hl:P < w.heap.size) (hS:St w0 P A c L w1 k2) (hg:wr.grownBy w1 (some P)) (hk:k'<=k2):LsI w0 P A c L w k es v w1 k2 :=
 ⟨h.own.kept hg (.inr (own_ne hl h.own)),fun e he => IsP.keep (fun b hb hlt => hg.block b hlt (fun e => by injection e with e; have:=hb.1; omega)) (fun _ hb _ => hb) _ _ _ _ (h.is e he),hS,grown_trans h.grown hg,Nat.le_trans h.le hk⟩
theorem LsI.step {es:List El} {v v':Value} {wr w2 w3:World} {k1 k2:Nat} {x:Ex} {d:Nd} {B:Option Addr} {m cp:Nat} {o:Obj} (h:LsI w0 P A c L w k es v wr k1) (hl:P < w.heap.size) (hP:w0.heap.size<=P) (hx:IsP (fun b => wr.heap.size<=b) w2 x d B m) (hS:St w0 P A c L w2 k2) (hg:wr.grownBy w2 (some P)) (hk:k1<=k2)
  (ho:w3.ownsRow w.heap.size 50 6 v' (es.length + 1) (elC es ++ [.int .i64 d.op,.int .i64 d.k,.int .i64 d.n,.string d.s,.string d.nm,.slice B m cp])) (hg3:(w2.alloc o).grownBy w3 v.ownBlock) (hloc:v'.ownBlock=v.ownBlock ∨ v'.ownBlock=some (w2.alloc o).heap.size) :
  LsI w0 P A c L w k (es ++ [⟨x,d,B,m,cp⟩]) v' w3 k2:=by
 have hown:=own_ne hl h.own
 have hsz:=hg.size
 have hws:=h.grown.size
 have hb2:∀ b,b < w2.heap.size->some b ≠ v.ownBlock->w3.heap[b]?=w2.heap[b]?:=fun b hb hne => (hg3.block b (by simp; omega) hne).trans ((b_new w2 o).block b hb)
 have hvl:∀ g,v.ownBlock=some g->w.heap.size<=g/\g < wr.heap.size:=fun g hg => h.own.lt g hg
 have hPl:=hS.lt
 refine ⟨by rw [elC_snoc,List.length_append]; exact ho,fun e he => ?_,?_,?_,Nat.le_trans h.le hk⟩
 ·rcases List.mem_append.1 he with he | he
  ·refine IsP.keep (fun b hb hlt => (hb2 b (by omega) hb.2).trans (hg.block b hlt (fun e => by injection e with e; have:=hb.1; omega))) (fun b hb hlt => ⟨hb.1,?_⟩) _ _ _ _ (h.is e he)
   rcases hloc with e1 | e1
   ·rw [e1]; exact hb.2
   ·rw [e1]; intro e2; injection e2 with e2; simp at e2; omega
  ·simp at he; subst he
   refine IsP.keep (fun b hb hlt => hb2 b hlt (fun e => ?_)) (fun b hb hlt => ⟨?_,?_⟩) _ _ _ _ hx
   ·have h1:wr.heap.size<=b:=hb
    have:=(hvl b e.symm).2; omega
   ·have h1:wr.heap.size<=b:=hb
    omega
   ·have h1:wr.heap.size<=b:=hb
    rcases hloc with e1 | e1
    ·rw [e1]; intro e2; have:=(hvl b e2.symm).2; omega
    ·rw [e1]; intro e2; injection e2 with e2; simp at e2; omega
 ·refine ⟨(hb2 P hPl hown.symm).trans hS.prs,?_,hS.le⟩
  have h1:=(hS.below.trans ((b_new w2 o).mono hS.below.size))
  exact h1.grown hg3 h1.size (fun g hg => by have:=(hvl g hg).1; have:=h.st.below.size; omega)
 ·refine ⟨hg3.os.trans (hg.os.trans h.grown.os),hg3.tape.trans (hg.tape.trans h.grown.tape),hg3.output.trans (hg.output.trans h.grown.output),?_,fun b hb hne => ?_⟩
  ·have:=hg3.size; simp at this; omega
  ·exact (hb2 b (by omega) (fun e => by have:=(hvl b e.symm).1; omega)).trans ((hg.block b (by omega) hne).trans (h.grown.block b hb hne))
def OkL (w0:World) (P:Nat) (A:Option Addr) (c:Nat) (L:List Tk) (w:World) (k:Nat) (l:List Ex) (r:List Tk) (e:Ending) (w':World):Prop :=
 ∃ (g cp k':Nat),e=.returned (.slice (some ⟨g,0,none⟩) l.length cp)/\RowP (fun b => w.heap.size<=b) w' (some ⟨g,0,none⟩) l/\r=L.drop k'/\k<=k'/\St w0 P A c L w' k'/\w.grownBy w' (some P)/\l.length<=1000
def EndsL (w0:World) (P:Nat) (A:Option Addr) (c:Nat) (L:List Tk) (w:World) (k:Nat) (o:Out) (e:Ending) (w':World):Prop :=
 match o with
 | .ok l r => OkL w0 P A c L w k l r e w'
 | .bad r => BadX P w r e w'
 | .tired => False
theorem LsI.done {es:List El} {g cap:Nat} {wr:World} {k':Nat} (h:LsI w0 P A c L w k es (.slice (some ⟨g,0,none⟩) es.length cap) wr k') (h0:0 < es.length) (hm:es.length<=1000):RowP (fun b => w.heap.size<=b) wr (some ⟨g,0,none⟩) (es.map El.x):=by
 have hg:=(h.own.lt g rfl).1
 have hr:=isP_row (P:=fun b => w.heap.size<=b) (d:=⟨0,0,0,⟨#[]⟩,⟨#[]⟩⟩) (es:=es) (g:=g) (w:=wr) (fun j hj => h.own.cellAt j hj) hg (by unfold maxLen; omega) (Nat.zero_le _) (Nat.zero_le _) (fun e he => (h.is e he).imp fun b hb _ => hb.1)
 exact (isP_mk.1 hr).2.2.2
def vlen:Value->Nat
 | .slice _ n _ => n
 | _ => 0
theorem ends_ok {o:Out} {x:Ex} {r:List Tk} (h:o=.ok [x] r) {e:Ending} {w':World} (he:Ends w0 P A c L w k o e w'):OkX w0 P A c L w k x r e w':=by subst h; exact he
theorem ends_bad {o:Out} {r:List Tk} (h:o=.bad r) {e:Ending} {w':World} (he:Ends w0 P A c L w k o e w'):BadX P w r e w':=by subst h; exact he
theorem infoEx:(Tryz.prog.info? 50).map (fun i => (i.zero,i.size,i.bytes))=some (some (.agg #[.int .i64 0,.int .i64 0,.int .i64 0,.string ⟨#[]⟩,.string ⟨#[]⟩,.slice none 0 0]),6,80):=by kernel_rfl
set_option maxRecDepth 100000 in
set_option maxHeartbeats 8000000 in
theorem list_any (hE:Env w0 P A L) (F:Nat) (hF:∀ f,f<=F->FormC w0 P A c L f) (n:Nat) (n1:1<=n) (n3:n<=3) (f:Nat) (hf:f<=F) (o:Out) (hS:St w0 P A c L w k) (hop:isNext [40] (L.drop k)=true) (hrun:run f (.list n []) (L.drop (k + 1))=o) (hne:o ≠ .tired) :
  Calls Tryz.prog 255 #[.pointer (some ⟨P,0,none⟩),.int .i64 (n:Int)] w (EndsL w0 P A c L w k o):=by
 obtain ⟨i0,hi,hz0,hz1,hz2⟩:=info_parts infoEx
 have hl:=hS.lt
 have hx:=expect_c hE hS ⟨#[40]⟩ hop
 have HX:=Lib.hid hx
 have HE:=Lib.hid hE
 have HF:=Lib.hid hF
 obtain ⟨f,rfl⟩:∃ g,f=g + 1:=by
  cases f with
  | zero => exact absurd hrun.symm hne
  | succ f => exact ⟨f,rfl⟩
 rw [run_list] at hrun
 clear hx hE hF hop hS
 go_enter Tryz.func255,Tryz.ntmps255
 go_wp2_with fail
 refine HX.out.mono ?_; rintro e w1 ⟨rfl,hk1,hS1,hg1⟩
 clear HX
 cases ho:run f (.form 0) (L.drop (k + 1)) with
 | tired => rw [ho] at hrun; exact absurd hrun.symm hne
 | bad r =>
  rw [ho] at hrun
  subst hrun
  have HC:=Lib.hid (HF.out f (by omega) 0 w1 (k + 1) _ (by omega) ho (by simp) hS1)
  have HG1:=Lib.hid hg1
  clear hS1 hg1 ho hne
  go_wp2_with fail
  refine HC.out.mono ?_; intro e w2 he
  obtain ⟨v,rfl,hw,hg2⟩:=ends_bad rfl he
  have HW:=Lib.hid (And.intro hw hg2)
  clear he hw hg2
  go_wp2_with fail
  exact ⟨rfl,v,rfl,HW.out.1,grown_trans HG1.out HW.out.2⟩
 | ok l1 r1 =>
  obtain ⟨x,rfl⟩:=run_form_one f _ _ _ _ (fun n acc => by simp) ho
  rw [ho] at hrun
  simp only [List.nil_append] at hrun
  have HC:=Lib.hid (HF.out f (by omega) 0 w1 (k + 1) _ (by omega) ho (by simp) hS1)
  have HG1:=Lib.hid hg1
  have HRun:=Lib.hid hrun
  have HNe:=Lib.hid hne
  clear hS1 hg1 ho hne hrun
  go_wp2_with fail
  refine HC.out.mono ?_; intro e w2 he
  obtain ⟨d,B,m,cp,k2,rfl,hx2,rfl,hk2,hS2,hg2⟩:=ends_ok rfl he
  have hgw:w.grownBy w2 (some P):=grown_trans HG1.out hg2
  have hsz1:=HG1.out.size
  have hsz2:=hg2.size
  have hI0:LsI w0 P A c L w k [⟨x,d,B,m,cp⟩] (.slice (some ⟨w2.heap.size,0,none⟩) 1 1) (w2.alloc (.cells #[.int .i64 d.op,.int .i64 d.k,.int .i64 d.n,.string d.s,.string d.nm,.slice B m cp] 50)) k2:=by
   refine ⟨⟨rfl,.inr ⟨w2.heap.size,1,#[.int .i64 d.op,.int .i64 d.k,.int .i64 d.n,.string d.s,.string d.nm,.slice B m cp],rfl,by omega,World.alloc_heap_new w2 _,Nat.le_refl _,by decide,rfl,rfl⟩⟩,fun e he => ?_,hS2.keep (b_new _ _),grown_trans hgw (grown_below (b_new _ _) _),by omega⟩
   simp at he; subst he
   exact IsP.keep (fun b _ hb => (b_new w2 _).block b hb) (fun b hb hlt => ⟨by have h1:w1.heap.size<=b:=hb; omega,by simp [Value.ownBlock]; omega⟩) _ _ _ _ hx2
  have HI0:=Lib.hid hI0
  clear hI0 he hx2 hS2 hg2 hgw HC HG1
  go_wp2_with fail
  go_loopw [5] (fun v wr => ∃ (es:List El) (f2 k':Nat),LsI w0 P A c L w k es v wr k'/\f2<=F/\cont f2 n (es.map El.x) (L.drop k')=o/\0 < es.length/\es.length<=n) (fun v _ => n - vlen v)
  case atStart => exact ⟨_,f,k2,HI0.out,by omega,HRun.out,by simp,by simp; omega⟩
  case round =>
   obtain ⟨es,f2,k',hI,hf2,hcont,hpos,hle⟩:=hrel
   obtain ⟨g,cap,rfl,hgl,hgs,hlc,hcm,hcl⟩:=own_form hI.own hpos
   have hlen:(es.map El.x).length=es.length:=List.length_map _
   unfold cont at hcont
   rw [hlen] at hcont
   by_cases hlt:es.length < n
   ·rw [if_pos hlt] at hcont
    have t1:(es.length:Int) < (n:Int):=by omega
    cases hc:isNext [44] (L.drop k') with
    | false =>
     rw [hc] at hcont
     simp only [Bool.false_eq_true,if_false] at hcont
     subst hcont
     have HX:=Lib.hid (expect_no HE.out hI.st ⟨#[44]⟩ hc)
     have HG:=Lib.hid hI.grown
     clear hI hcl hc HI0 HRun
     go_wp2_with fail
     refine HX.out.mono ?_; rintro e w3 ⟨v,rfl,hw,mm,rfl⟩
     have HW:=Lib.hid hw
     clear hw
     go_wp2_with fail
     exact ⟨rfl,v,rfl,HW.out,grown_trans HG.out (grown_below (b_drewN (Below.refl _ _) _) _)⟩
    | true =>
     rw [hc] at hcont
     simp only [if_true,List.tail_drop] at hcont
     have HX:=Lib.hid (expect_c HE.out hI.st ⟨#[44]⟩ hc)
     obtain ⟨f3,rfl⟩:∃ g,f2=g + 1:=by
      cases f2 with
      | zero => exact absurd hcont.symm HNe.out
      | succ f => exact ⟨f,rfl⟩
     rw [run_list] at hcont
     have HI:=Lib.hid hI
     clear hI hcl hc HI0 HRun
     go_wp2_with fail
     refine HX.out.mono ?_; rintro e w3 ⟨rfl,hk3,hS3,hg3⟩
     have hI3:=HI.out.keep hl hS3 hg3 (Nat.le_succ _)
     cases ho:run f3 (.form 0) (L.drop (k' + 1)) with
     | tired => rw [ho] at hcont; exact absurd hcont.symm HNe.out
     | bad r =>
      rw [ho] at hcont
      subst hcont
      have HC:=Lib.hid (HF.out f3 (by omega) 0 w3 (k' + 1) _ (by omega) ho (by simp) hS3)
      have HG:=Lib.hid hI3.grown
      clear hS3 hg3 ho hI3 HI HX
      go_wp2_with fail
      refine HC.out.mono ?_; intro e w4 he
      obtain ⟨v,rfl,hw,hg4⟩:=ends_bad rfl he
      have HW:=Lib.hid (And.intro hw hg4)
      clear he hw hg4
      go_wp2_with fail
      exact ⟨rfl,v,rfl,HW.out.1,grown_trans HG.out HW.out.2⟩
     | ok l2 r2 =>
      obtain ⟨y,rfl⟩:=run_form_one f3 _ _ _ _ (fun n acc => by simp) ho
      rw [ho] at hcont
      have HC:=Lib.hid (HF.out f3 (by omega) 0 w3 (k' + 1) _ (by omega) ho (by simp) hS3)
      have HI3:=Lib.hid hI3
      have HCont:=Lib.hid hcont
      clear hS3 hg3 ho hI3 HI HX hcont
      go_wp2_with fail
      refine HC.out.mono ?_; intro e w4 he
      obtain ⟨d4,B4,m4,cp4,k4,rfl,hx4,rfl,hk4,hS4,hg4⟩:=ends_ok rfl he
      have hown:=(HI3.out.own.kept hg4 (.inr (own_ne hl HI3.out.own))).alloc (.cells #[.int .i64 d4.op,.int .i64 d4.k,.int .i64 d4.n,.string d4.s,.string d4.nm,.slice B4 m4 cp4] 50)
      have hsz4:=hg4.size
      have hsz3:=HI3.out.grown.size
      have H4:=Lib.hid (And.intro hx4 (And.intro hS4 (And.intro hg4 hk4)))
      clear he hx4 hS4 hg4
      go_wp2_with (at_builtin; refine wpList_append_own_at _ rfl _ _ 48 rfl w.heap.size 50 i0 (.agg #[.int .i64 0,.int .i64 0,.int .i64 0,.string ⟨#[]⟩,.string ⟨#[]⟩,.slice none 0 0]) 6 80 Tryz.underlying48 hi hz0 hz1 hz2 rfl (by decide) _ _ _ rfl hown ⟨w4.heap.size,0,none⟩ 1 1 [.int .i64 d4.op,.int .i64 d4.k,.int .i64 d4.n,.string d4.s,.string d4.nm,.slice B4 m4 cp4] rfl rfl ?c1 ?c2 ?c3 ?c4 ?c5 ?_)
      case c1 => exact World.news_of_block (cs:=#[.int .i64 d4.op,.int .i64 d4.k,.int .i64 d4.n,.string d4.s,.string d4.nm,.slice B4 m4 cp4]) (t:=50) (fr:=(0,0)) (World.alloc_heap_new w4 _)
      case c2 => simp [Value.oneCell']
      case c3 => unfold maxLen; omega
      case c4 => omega
      case c5 => simp; omega
      intro v' w5 hown5 hgrow5 _ hloc
      have hN:=HI3.out.step hl HE.out.hP H4.out.1 H4.out.2.1 H4.out.2.2.1 H4.out.2.2.2 hown5 hgrow5 (by rw [World.size_alloc]; exact hloc)
      obtain ⟨A5,c5,rfl⟩:=own_slice hown5
      have HN:=Lib.hid hN
      clear hN hown5 hgrow5 hown hloc
      go_wp2_with fail
      go_roundw
      case rel => exact ⟨_,f3,k4,HN.out,by omega,by rw [List.map_append]; exact HCont.out,by simp,by simp; omega⟩
      case measure => simp [vlen]; omega
   ·have hn:n=es.length:=by omega
    subst hn
    rw [if_neg hlt] at hcont
    have t1:¬ (es.length:Int) < (es.length:Int):=by omega
    cases hc:isNext [41] (L.drop k') with
    | false =>
     rw [hc] at hcont
     simp only [Bool.false_eq_true,if_false] at hcont
     subst hcont
     have HX:=Lib.hid (expect_no HE.out hI.st ⟨#[41]⟩ hc)
     have HG:=Lib.hid hI.grown
     clear hI hcl hc HI0 HRun
     go_wp2_with fail
     refine HX.out.mono ?_; rintro e w3 ⟨v,rfl,hw,mm,rfl⟩
     have HW:=Lib.hid hw
     clear hw
     go_wp2_with fail
     exact ⟨rfl,v,rfl,HW.out,grown_trans HG.out (grown_below (b_drewN (Below.refl _ _) _) _)⟩
    | true =>
     rw [hc] at hcont
     simp only [if_true,List.tail_drop] at hcont
     subst hcont
     have HX:=Lib.hid (expect_c HE.out hI.st ⟨#[41]⟩ hc)
     have HI:=Lib.hid hI
     clear hI hcl hc HI0 HRun
     go_wp2_with fail
     refine HX.out.mono ?_; rintro e w3 ⟨rfl,hk3,hS3,hg3⟩
     have hI3:=HI.out.keep hl hS3 hg3 (Nat.le_succ _)
     have HR:=Lib.hid (hI3.done hpos (by omega))
     have HI3:=Lib.hid hI3
     clear hI3 hg3 hS3 HI HX
     go_wp2_with fail
     go_ret
     exact ⟨g,cap,k' + 1,by rw [hlen]; rfl,HR.out,rfl,HI3.out.le,HI3.out.st,HI3.out.grown,by rw [hlen]; omega⟩
end
end PsL
namespace PsA
open Go.RowKit
open LexM ExM Kit ExL ExP PsM PsT NmC Ps PsR PsL
set_option linter.unusedVariables false
section
variable {w0:World} {P:Nat} {A:Option Addr} {c:Nat} {L:List Tk} {w:World} {k:Nat}
set_option maxHeartbeats 2000000 in
theorem list_no (hE:Env w0 P A L) (n:Nat) (hS:St w0 P A c L w k) (hop:isNext [40] (L.drop k)=false) :
  Calls Tryz.prog 255 #[.pointer (some ⟨P,0,none⟩),.int .i64 (n:Int)] w (BadX P w (L.drop k)):=by
 have HX:=Lib.hid (expect_no hE hS ⟨#[40]⟩ hop)
 clear hS hE hop
 go_enter Tryz.func255,Tryz.ntmps255
 go_wp2_with fail
 refine HX.out.mono ?_; rintro e w3 ⟨v,rfl,hw,mm,rfl⟩
 have HW:=Lib.hid hw
 clear hw
 go_wp2_with fail
 exact ⟨rfl,v,rfl,HW.out,grown_below (b_drewN (Below.refl _ _) _) _⟩
theorem opAt6 {s:List UInt8} {op:Nat} (h:PsM.opAt 6 s=some op) (hs:s ≠ []):op < 19/\(op=17 ∨ op=18)/\(rw_ op).2.2=(arity op:Int)/\arity op<=3/\1<=arity op:=by
 obtain ⟨h1,h3,⟨h2,_⟩,_⟩:=opAt_some h hs
 obtain rfl | rfl | rfl | rfl | rfl | rfl | rfl | rfl | rfl | rfl | rfl | rfl | rfl | rfl | rfl | rfl:op=3 ∨ op=4 ∨ op=5 ∨ op=6 ∨ op=7 ∨ op=8 ∨ op=9 ∨ op=10 ∨ op=11 ∨ op=12 ∨ op=13 ∨ op=14 ∨ op=15 ∨ op=16 ∨ op=17 ∨ op=18:=by omega
 all_goals first
  | exact ⟨by decide,.inl rfl,rfl,by decide,by decide⟩
  | exact ⟨by decide,.inr rfl,rfl,by decide,by decide⟩
  | exact absurd h2 (by decide)
theorem box_new (hS:St w0 P A c L w k):St w0 P A c L (w.alloc (.cells #[.int .i64 0,.int .i64 0,.int .i64 0,.string ⟨#[]⟩,.string ⟨#[]⟩,.slice none 0 0] 50)) k:=hS.keep (b_new _ _)
theorem fin_box {V w1:World} {k':Nat} {x:Ex} {d:Nd} {B:Option Addr} {m cp:Nat} (hS:St w0 P A c L w k) (hE:Env w0 P A L) (hV:w.grownBy V (some P)) (hz:Boxz V w.heap.size) (hx:IsP (fun b => V.heap.size<=b) w1 x d B m) (hS1:St w0 P A c L w1 k') (hg:V.grownBy w1 (some P)) :
  Boxz w1 w.heap.size/\(IsP (fun b => w.heap.size<=b) (S6 w1 w.heap.size (.int .i64 d.op) (.int .i64 d.k) (.int .i64 d.n) (.string d.s) (.string d.nm) (.slice B m cp)) x d B m/\St w0 P A c L (S6 w1 w.heap.size (.int .i64 d.op) (.int .i64 d.k) (.int .i64 d.n) (.string d.s) (.string d.nm) (.slice B m cp)) k'/\w.grownBy (S6 w1 w.heap.size (.int .i64 d.op) (.int .i64 d.k) (.int .i64 d.n) (.string d.s) (.string d.nm) (.slice B m cp)) (some P)):=by
 have hl:=hS.lt
 have hzl:=(Array.getElem?_eq_some_iff.1 hz).1
 have hbz:=boxz_grown hz hg (by omega)
 exact ⟨hbz,put_res hS hE.hP (hx.imp fun b hb _ => by have h1:V.heap.size<=b:=hb; omega) hS1 hbz (grown_trans hV hg)⟩
set_option maxRecDepth 100000 in
set_option maxHeartbeats 8000000 in
theorem atom_any (hE:Env w0 P A L) (hFu:Full L) (hSm:Small L) (F:Nat) (hF:∀ f,f<=F->FormC w0 P A c L f) (f:Nat) (hf:f<=F) (o:Out) (hS:St w0 P A c L w k) (h5:opNext 5 (L.drop k)=none) (hrun:run (f + 1) (.form 5) (L.drop k)=o) (hne:o ≠ .tired) :
  Calls Tryz.prog 238 #[.pointer (some ⟨P,0,none⟩)] w (PsL.Ends w0 P A c L w k o):=by
 have hl:=hS.lt
 obtain ⟨V,hV⟩:∃ V,w.alloc (.cells #[.int .i64 0,.int .i64 0,.int .i64 0,.string ⟨#[]⟩,.string ⟨#[]⟩,.slice none 0 0] 50)=V:=⟨_,rfl⟩
 have hSV:=box_new hS
 have hzV:=boxz_at w
 have hbV:=b_new w (.cells #[.int .i64 0,.int .i64 0,.int .i64 0,.string ⟨#[]⟩,.string ⟨#[]⟩,.slice none 0 0] 50)
 rw [hV] at hSV hzV hbV
 have hI:=isNext_c hE hSV ⟨#[40]⟩
 cases hd:L.drop k with
 | nil =>
  obtain rfl:=drop_nil hd hS.le
  rw [hd] at hrun hI
  have ho:o=.bad []:=by rw [← hrun]; simp [run]
  subst ho
  have HI:=Lib.hid hI
  have HV:=Lib.hid hV
  have HSV:=Lib.hid hSV
  have HBV:=Lib.hid hbV
  clear hrun hI hV hbV hzV hF hS
  go_enter Tryz.func238,Tryz.ntmps238
  go_wp2_with fail
  rw [HV.out]
  refine HI.out.mono ?_; rintro e w1 ⟨rfl,m,rfl⟩
  have HO:=Lib.hid (operator_no hE (hSV.drew m) hFu 6 (by omega) (by rw [hd]; rfl))
  go_wp2_with fail
  refine HO.out.mono ?_; rintro e w2 ⟨rfl,hb2⟩
  have hS2:=(hSV.drew m).keep hb2
  have HX:=Lib.hid (single_end hE hS2)
  have HB2:=Lib.hid (HBV.out.trans ((b_drewN (Below.refl V.heap.size V) m).mono HBV.out.size |>.trans (hb2.mono HBV.out.size)))
  clear hS2 hb2 HO
  go_wp2_with fail
  refine HX.out.mono ?_; rintro e w3 ⟨v,rfl,hw,hg⟩
  have HW:=Lib.hid (And.intro hw hg)
  clear hw hg
  go_wp2_with fail
  exact ⟨rfl,v,rfl,HW.out.1,grown_trans (grown_below HB2.out _) HW.out.2⟩
 | cons t r =>
  obtain ⟨hk,ht,hr⟩:=drop_cons hd
  have hrun2:(if t.s=[40] then run f (.list 1 []) r else match PsM.opAt 6 t.s with
      | some op => if isNext [40] r then wrap op (run f (.list (arity op) []) r.tail) else .bad r
      | none => match leafN t with
       | some x => .ok [x] r
       | none => .bad (t :: r))=o:=by
   have h5':PsM.opAt 5 t.s=none:=by rw [hd] at h5; exact h5
   rw [hd] at hrun
   simp only [run,if_true,h5'] at hrun
   exact hrun
  clear hrun
  have hts:t.s ≠ []:=hFu t (by rw [ht]; exact List.getElem_mem _)
  rw [hd] at hI
  by_cases hp:t.s=[40]
  ·rw [if_pos hp] at hrun2
   have e1:isNext (ByteArray.mk #[40]).data.toList (t :: r)=true:=decide_eq_true hp
   have e2:isNext [40] (L.drop k)=true:=by rw [hd]; exact decide_eq_true hp
   rw [e1] at hI
   rw [hr] at hrun2
   have HI:=Lib.hid hI
   have HV:=Lib.hid hV
   have HBV:=Lib.hid hbV
   have HZ:=Lib.hid hzV
   have HS:=Lib.hid hS
   have hL:∀ m,Calls Tryz.prog 255 #[.pointer (some ⟨P,0,none⟩),.int .i64 (1:Int)] (V.drewN m) (EndsL w0 P A c L (V.drewN m) k (run f (.list 1 []) (L.drop (k + 1)))):=fun m => by
    have:=list_any hE F hF 1 (by omega) (by omega) f hf _ (hSV.drew m) e2 rfl (by rw [hrun2]; exact hne)
    exact this
   rw [hrun2] at hL
   have HL:=Lib.hid hL
   have HE:=Lib.hid hE
   clear hI hV hbV hzV hF hS hSV hL e1 e2 hE
   go_enter Tryz.func238,Tryz.ntmps238
   go_wp2_with fail
   rw [HV.out]
   refine HI.out.mono ?_; rintro e w1 ⟨rfl,m,rfl⟩
   have HVm:=Lib.hid (grown_below (HBV.out.trans ((b_drewN (Below.refl V.heap.size V) m).mono HBV.out.size)) (some P))
   have HZm:=Lib.hid (boxz_keep HZ.out (b_drewN (Below.refl V.heap.size V) m))
   go_wp2_with fail
   refine (HL.out m).mono ?_; intro e w2 he
   cases o with
   | tired => exact he.elim
   | bad r' =>
    obtain ⟨v,rfl,hw,hg⟩:=he
    have HW:=Lib.hid (And.intro hw hg)
    clear hw hg
    go_wp2_with fail
    exact ⟨rfl,v,rfl,HW.out.1,grown_trans HVm.out HW.out.2⟩
   | ok l r' =>
    obtain ⟨x,rfl⟩:∃ x,l=[x]:=by
     obtain ⟨y,hy⟩:=run_form_one.run_list_one f 1 [] _ _ _ (by simp) hrun2
     exact ⟨y,hy⟩
    obtain ⟨g,cp,k',rfl,hrow,rfl,hk',hS2,hg2,_⟩:=he
    obtain ⟨a,d,B,n,c2,hA2,hPa,hat,hix⟩:=hrow 0 (by simp)
    obtain rfl:(⟨g,0,none⟩:Addr)=a:=by injection hA2
    rw [show ((⟨g,0,none⟩:Addr).add (0 * 6))=⟨g,0,none⟩ from by simp [Addr.add]] at hat
    obtain ⟨q0,q1,q2,q3,q4,q5⟩:=hat
    obtain ⟨hbz,hend⟩:=fin_box (cp:=c2) HS.out HE.out HVm.out HZm.out hix hS2 hg2
    obtain ⟨z1,z2⟩:=cells_of hbz
    unfold S6 at hend
    have HEnd:=Lib.hid hend
    clear hend hbz hix hS2 hg2 hrow
    go_wp2_with fail
    refine bodyPost_ret (v:=.agg #[.int .i64 d.op,.int .i64 d.k,.int .i64 d.n,.string d.s,.string d.nm,.slice B n c2]) (by simp [results,Tryz.results238,go_sem,z1]) rfl ?_
    obtain ⟨e1,e2,e3⟩:=HEnd.out
    exact ⟨d,B,n,c2,k',rfl,e1,rfl,hk',e2,e3⟩
  ·rw [if_neg hp] at hrun2
   have e1:isNext (ByteArray.mk #[40]).data.toList (t :: r)=false:=decide_eq_false hp
   rw [e1] at hI
   cases h6:PsM.opAt 6 t.s with
   | some op =>
    simp only [h6] at hrun2
    have h6':opNext 6 (L.drop k)=some op:=by rw [hd]; exact h6
    obtain ⟨p1,p2,p3,p4,p5⟩:=opAt6 h6 hts
    have HI:=Lib.hid hI
    have HV:=Lib.hid hV
    have HBV:=Lib.hid hbV
    have HZ:=Lib.hid hzV
    have HS:=Lib.hid hS
    have HSV:=Lib.hid hSV
    have HO:=Lib.hid (fun m => operator_yes hE (hSV.drew m) hFu 6 op h6')
    have HE:=Lib.hid hE
    have HF:=Lib.hid hF
    have HRun:=Lib.hid hrun2
    have HNe:=Lib.hid hne
    have HR:=Lib.hid hr
    clear hI hV hbV hzV hF hS hSV hE hrun2 hne h6 h6' e1 h5 hd hr ht
    go_enter Tryz.func238,Tryz.ntmps238
    go_wp2_with fail
    rw [HV.out]
    refine HI.out.mono ?_; rintro e w1 ⟨rfl,m,rfl⟩
    have HVm:=Lib.hid (grown_below (HBV.out.trans ((b_drewN (Below.refl V.heap.size V) m).mono HBV.out.size)) (some P))
    have HZm:=Lib.hid (boxz_keep HZ.out (b_drewN (Below.refl V.heap.size V) m))
    go_wp2_with fail
    refine (HO.out m).mono ?_; rintro e w2 ⟨rfl,hk2,hS2,hg2⟩
    have hz2:=boxz_grown HZm.out hg2 (by omega)
    have hgw2:=grown_trans HVm.out hg2
    obtain ⟨_,_,y2⟩:=tab_cells (ExN.Tab.below HE.out.tab hS2.below) op p1
    rw [p3] at y2
    have hsz2:=hgw2.size
    have t3:((op:Int) == 0)=false:=beq_eq_false_iff_ne.2 (by omega)
    have t4:(op:Int) < 19:=by omega
    cases hn:isNext [40] r with
    | false =>
     have hrun:=HRun.out
     rw [hn] at hrun
     simp only [Bool.false_eq_true,if_false] at hrun
     subst hrun
     rw [HR.out] at hn
     have HL:=Lib.hid (list_no HE.out (arity op) hS2 hn)
     have HG:=Lib.hid hgw2
     clear hS2 hg2 hz2 hgw2 hn
     go_wp2_with fail
     refine HL.out.mono ?_; rintro e w3 ⟨v,rfl,hw,hg⟩
     have HW:=Lib.hid (And.intro hw hg)
     clear hw hg
     go_wp2_with fail
     exact ⟨rfl,v,rfl,by rw [HR.out]; exact HW.out.1,grown_trans HG.out HW.out.2⟩
    | true =>
     have hrun:=HRun.out
     rw [hn] at hrun
     simp only [if_true] at hrun
     rw [HR.out] at hrun hn
     rw [List.tail_drop] at hrun
     obtain ⟨o2,ho2⟩:∃ o2,run f (.list (arity op) []) (L.drop (k + 1 + 1))=o2:=⟨_,rfl⟩
     rw [ho2] at hrun
     have hne2:o2 ≠ .tired:=fun e => HNe.out (by rw [← hrun,e]; rfl)
     have HL:=Lib.hid (list_any HE.out F HF.out (arity op) p5 p4 f hf _ hS2 hn ho2 hne2)
     have HG:=Lib.hid hgw2
     have HZ2:=Lib.hid hz2
     have HG2:=Lib.hid hg2
     have HO2:=Lib.hid ho2
     clear hS2 hg2 hz2 hgw2 hn ho2 hne2
     go_wp2_with fail
     refine HL.out.mono ?_; intro e w3 he
     cases o2 with
     | tired => exact he.elim
     | bad r' =>
      obtain ⟨v,rfl,hw,hg⟩:=he
      subst hrun
      have HW:=Lib.hid (And.intro hw hg)
      clear hw hg
      go_wp2_with fail
      exact ⟨rfl,v,rfl,HW.out.1,grown_trans HG.out HW.out.2⟩
     | ok l r' =>
      obtain ⟨g,cp,k',rfl,hrow,rfl,hk',hS3,hg3,hlen⟩:=he
      subst hrun
      have hx:IsP (fun b => w2.heap.size<=b) w3 (opN op l) ⟨(op:Int),0,0,⟨#[]⟩,⟨#[]⟩⟩ (some ⟨g,0,none⟩) l.length:=RowP.mk_ hrow rfl (by unfold maxLen; omega) (Nat.zero_le _) (Nat.zero_le _)
      obtain ⟨hbz,hend⟩:=fin_box (cp:=cp) HS.out HE.out HG.out HZ2.out hx hS3 hg3
      obtain ⟨z1,z2⟩:=cells_of hbz
      unfold S6 at hend
      have HEnd:=Lib.hid hend
      clear hend hbz hx hS3 hg3 hrow y2
      go_wp2_with fail
      refine bodyPost_ret (v:=.agg #[.int .i64 (op:Int),.int .i64 0,.int .i64 0,.string ⟨#[]⟩,.string ⟨#[]⟩,.slice (some ⟨g,0,none⟩) l.length cp]) (by simp [results,Tryz.results238,go_sem,z1]) rfl ?_
      obtain ⟨e1,e2,e3⟩:=HEnd.out
      exact ⟨_,_,_,cp,k',rfl,e1,rfl,by omega,e2,e3⟩
   | none =>
    simp only [h6] at hrun2
    have h6':opNext 6 (L.drop k)=none:=by rw [hd]; exact h6
    have hx:∃ b x,((b=true/\leafN L[k]=some x) ∨ (b=false/\leafN L[k]=none/\x=.mk ⟨0,0,0,⟨#[]⟩,⟨#[]⟩⟩ []))/\o=if b then .ok [x] (L.drop (k + 1)) else .bad (L.drop k):=by
     rw [← ht]
     cases hlf:leafN t with
     | some x => rw [hlf] at hrun2; exact ⟨true,x,.inl ⟨rfl,rfl⟩,by rw [← hrun2,hr]; rfl⟩
     | none => rw [hlf] at hrun2; exact ⟨false,_,.inr ⟨rfl,rfl,rfl⟩,by rw [← hrun2,hd]; rfl⟩
    obtain ⟨b,x,hbx,ho⟩:=hx
    have HI:=Lib.hid hI
    have HV:=Lib.hid hV
    have HBV:=Lib.hid hbV
    have HZ:=Lib.hid hzV
    have HS:=Lib.hid hS
    have HSV:=Lib.hid hSV
    have HO:=Lib.hid (fun m => operator_no hE (hSV.drew m) hFu 6 (by omega) h6')
    have HE:=Lib.hid hE
    have HBx:=Lib.hid hbx
    have HOo:=Lib.hid ho
    clear hI hV hbV hzV hF hS hSV hE hrun2 hne h6 h6' e1 h5 hd hr hbx ho
    go_enter Tryz.func238,Tryz.ntmps238
    go_wp2_with fail
    rw [HV.out]
    refine HI.out.mono ?_; rintro e w1 ⟨rfl,m,rfl⟩
    go_wp2_with fail
    refine (HO.out m).mono ?_; rintro e w2 ⟨rfl,hb2⟩
    have hbm:=(b_drewN (Below.refl V.heap.size V) m)
    have hbV2:Below V.heap.size V w2:=hbm.trans (hb2.mono (by exact Nat.le_refl _))
    have hS2:=HSV.out.keep hbV2
    have hg2:w.grownBy w2 (some P):=grown_below (HBV.out.trans (hbV2.mono HBV.out.size)) _
    have hz2:=boxz_keep HZ.out hbV2
    have HX:=Lib.hid (single_any HE.out hS2 hk b x HBx.out hSm)
    have HG:=Lib.hid hg2
    have HZ2:=Lib.hid hz2
    clear hbm hb2 hbV2 hS2 hg2 hz2
    go_wp2_with fail
    refine HX.out.mono ?_; rintro e w3 ⟨hT,hFa⟩
    cases b with
    | false =>
     obtain ⟨v,rfl,hw,hg⟩:=hFa rfl
     obtain rfl:=HOo.out
     have HW:=Lib.hid (And.intro hw hg)
     clear hw hg hT hFa
     go_wp2_with fail
     exact ⟨rfl,v,rfl,HW.out.1,grown_trans HG.out HW.out.2⟩
    | true =>
     obtain ⟨d,B,n,c2,k',rfl,hix,hr',hk',hS3,hg3⟩:=hT rfl
     obtain rfl:=HOo.out
     obtain ⟨hbz,hend⟩:=fin_box (cp:=c2) HS.out HE.out HG.out HZ2.out hix hS3 hg3
     obtain ⟨z1,z2⟩:=cells_of hbz
     unfold S6 at hend
     have HEnd:=Lib.hid hend
     have HR':=Lib.hid hr'
     clear hend hbz hix hS3 hg3 hT hFa hr'
     go_wp2_with fail
     refine bodyPost_ret (v:=.agg #[.int .i64 d.op,.int .i64 d.k,.int .i64 d.n,.string d.s,.string d.nm,.slice B n c2]) (by simp [results,Tryz.results238,go_sem,z1]) rfl ?_
     obtain ⟨e1,e2,e3⟩:=HEnd.out
     exact ⟨d,B,n,c2,k',rfl,e1,HR'.out,hk',e2,e3⟩
end
end PsA
namespace PsF
open Go.RowKit
open LexM ExM Kit ExL ExP PsM PsT NmC Ps PsR PsL PsA
set_option linter.unusedVariables false
section
variable {w0:World} {P:Nat} {A:Option Addr} {c:Nat} {L:List Tk} {w:World} {k:Nat}
theorem opAt_bounds {q op:Nat} {s:List UInt8} (h:PsM.opAt q s=some op) (hs:s ≠ []):3<=op/\op < 19:=by
 obtain ⟨h1,h3,_⟩:=opAt_some h hs
 exact ⟨h3,h1⟩
set_option maxRecDepth 100000 in
set_option maxHeartbeats 8000000 in
theorem pref_any (hE:Env w0 P A L) (hFu:Full L) (hSm:Small L) (F:Nat) (hF:∀ f,f<=F->FormC w0 P A c L f):∀ (f:Nat),f<=F + 1->∀ (w:World) (k:Nat) (o:Out),run f (.form 5) (L.drop k)=o->o ≠ .tired->St w0 P A c L w k →
  Calls Tryz.prog 221 #[.pointer (some ⟨P,0,none⟩)] w (PsL.Ends w0 P A c L w k o):=by
 intro f
 induction f with
 | zero => intro _ w k o hrun hne; exact absurd hrun.symm hne
 | succ f ih =>
  intro hf w k o hrun hne hS
  have hl:=hS.lt
  obtain ⟨V,hV⟩:∃ V,w.alloc (.cells #[.int .i64 0,.int .i64 0,.int .i64 0,.string ⟨#[]⟩,.string ⟨#[]⟩,.slice none 0 0] 50)=V:=⟨_,rfl⟩
  have hSV:=box_new hS
  have hzV:=boxz_at w
  have hbV:=b_new w (.cells #[.int .i64 0,.int .i64 0,.int .i64 0,.string ⟨#[]⟩,.string ⟨#[]⟩,.slice none 0 0] 50)
  rw [hV] at hSV hzV hbV
  cases h5:opNext 5 (L.drop k) with
  | none =>
   have HO:=Lib.hid (operator_no hE hSV hFu 5 (by omega) h5)
   have HA:=Lib.hid (fun (W:World) (hW:St w0 P A c L W k) => atom_any hE hFu hSm F hF f (by omega) o hW h5 hrun hne)
   have HV:=Lib.hid hV
   have HBV:=Lib.hid hbV
   have HZ:=Lib.hid hzV
   have HS:=Lib.hid hS
   have HSV:=Lib.hid hSV
   have HE:=Lib.hid hE
   clear ih hF hrun hne hS hV hSV hzV hbV h5 hE
   go_enter Tryz.func221,Tryz.ntmps221
   go_wp2_with fail
   rw [HV.out]
   refine HO.out.mono ?_; rintro e w2 ⟨rfl,hb2⟩
   have hS2:=HSV.out.keep hb2
   have hg2:w.grownBy w2 (some P):=grown_below (HBV.out.trans (hb2.mono HBV.out.size)) _
   have hz2:=boxz_keep HZ.out hb2
   have HX:=Lib.hid (HA.out w2 hS2)
   have HG:=Lib.hid hg2
   have HZ2:=Lib.hid hz2
   clear hb2 hS2 hg2 hz2
   go_wp2_with fail
   refine HX.out.mono ?_; intro e w3 he
   cases o with
   | tired => exact he.elim
   | bad r' =>
    obtain ⟨v,rfl,hw,hg⟩:=he
    have HW:=Lib.hid (And.intro hw hg)
    clear hw hg
    go_wp2_with fail
    exact ⟨rfl,v,rfl,HW.out.1,grown_trans HG.out HW.out.2⟩
   | ok l r' =>
    match l,he with
    | [],he => exact he.elim
    | x :: y :: l,he => exact he.elim
    | [x],he =>
     obtain ⟨d,B,n,c2,k',rfl,hix,rfl,hk',hS3,hg3⟩:=he
     obtain ⟨hbz,hend⟩:=fin_box (cp:=c2) HS.out HE.out HG.out HZ2.out hix hS3 hg3
     obtain ⟨z1,z2⟩:=cells_of hbz
     unfold S6 at hend
     have HEnd:=Lib.hid hend
     clear hend hbz hix hS3 hg3
     go_wp2_with fail
     refine bodyPost_ret (v:=.agg #[.int .i64 d.op,.int .i64 d.k,.int .i64 d.n,.string d.s,.string d.nm,.slice B n c2]) (by simp [results,Tryz.results221,go_sem,z1]) rfl ?_
     obtain ⟨e1,e2,e3⟩:=HEnd.out
     exact ⟨d,B,n,c2,k',rfl,e1,rfl,hk',e2,e3⟩
  | some op =>
   obtain ⟨t,r,hd⟩:∃ t r,L.drop k=t :: r:=by
    cases hd:L.drop k with
    | nil => rw [hd] at h5; cases h5
    | cons t r => exact ⟨t,r,rfl⟩
   obtain ⟨hk,ht,hr⟩:=drop_cons hd
   have h5':PsM.opAt 5 t.s=some op:=by rw [hd] at h5; exact h5
   have hob:=opAt_bounds h5' (hFu t (by rw [ht]; exact List.getElem_mem _))
   obtain ⟨o2,ho2⟩:∃ o2,run f (.form 5) (L.drop (k + 1))=o2:=⟨_,rfl⟩
   have hrun2:wrap op o2=o:=by
    rw [hd] at hrun
    simp only [run,if_true,h5'] at hrun
    rw [hr,ho2] at hrun; exact hrun
   have hne2:o2 ≠ .tired:=fun e => hne (by rw [← hrun2,e]; rfl)
   have HO:=Lib.hid (operator_yes hE hSV hFu 5 op h5)
   have HA:=Lib.hid (fun (W:World) (hW:St w0 P A c L W (k + 1)) => ih (by omega) W (k + 1) o2 ho2 hne2 hW)
   have HV:=Lib.hid hV
   have HBV:=Lib.hid hbV
   have HZ:=Lib.hid hzV
   have HS:=Lib.hid hS
   have HE:=Lib.hid hE
   have t3:((op:Int) == 0)=false:=beq_eq_false_iff_ne.2 (by omega)
   subst hrun2
   clear ih hF hrun hne hS hV hSV hzV hbV h5 h5' hE ho2 hne2 hd ht hr
   go_enter Tryz.func221,Tryz.ntmps221
   go_wp2_with fail
   rw [HV.out]
   refine HO.out.mono ?_; rintro e w2 ⟨rfl,hk2,hS2,hg2⟩
   have hz2:=boxz_grown HZ.out hg2 (by omega)
   have hgw2:=grown_trans (grown_below HBV.out (some P)) hg2
   have hsz2:=hgw2.size
   have HX:=Lib.hid (HA.out w2 hS2)
   have HG:=Lib.hid hgw2
   have HZ2:=Lib.hid hz2
   clear hS2 hg2 hgw2 hz2
   go_wp2_with fail
   refine HX.out.mono ?_; intro e w3 he
   cases o2 with
   | tired => exact he.elim
   | bad r' =>
    obtain ⟨v,rfl,hw,hg⟩:=he
    have HW:=Lib.hid (And.intro hw hg)
    clear hw hg
    go_wp2_with fail
    exact ⟨rfl,v,rfl,HW.out.1,grown_trans HG.out HW.out.2⟩
   | ok l r' =>
    match l,he with
    | [],he => exact he.elim
    | x :: y :: l,he => exact he.elim
    | [x],he =>
     obtain ⟨d,B,n,c2,k',rfl,hix,rfl,hk',hS3,hg3⟩:=he
     have hb4:=b_new w3 (.cells #[.int .i64 d.op,.int .i64 d.k,.int .i64 d.n,.string d.s,.string d.nm,.slice B n c2] 50)
     have hs3:=hg3.size
     have hx:IsP (fun b => w2.heap.size<=b) (w3.alloc (.cells #[.int .i64 d.op,.int .i64 d.k,.int .i64 d.n,.string d.s,.string d.nm,.slice B n c2] 50)) (opN op [x]) ⟨(op:Int),0,0,⟨#[]⟩,⟨#[]⟩⟩ (some ⟨w3.heap.size,0,none⟩) 1:=by
      have:=isP_row (P:=fun b => w2.heap.size<=b) (w:=w3.alloc (.cells #[.int .i64 d.op,.int .i64 d.k,.int .i64 d.n,.string d.s,.string d.nm,.slice B n c2] 50)) (d:=⟨(op:Int),0,0,⟨#[]⟩,⟨#[]⟩⟩) (es:=[⟨x,d,B,n,c2⟩]) (g:=w3.heap.size) (fun j hj => by rw [(cells_of (World.alloc_heap_new w3 (.cells #[.int .i64 d.op,.int .i64 d.k,.int .i64 d.n,.string d.s,.string d.nm,.slice B n c2] 50))).1]; simp [elC,El.cells]) hs3 (by unfold maxLen; simp) (Nat.zero_le _) (Nat.zero_le _) (fun e he => by simp at he; subst he; exact hix.below hb4)
      exact this
     obtain ⟨hbz,hend⟩:=fin_box (cp:=1) HS.out HE.out HG.out HZ2.out hx (hS3.keep hb4) (grown_trans hg3 (grown_below hb4 _))
     obtain ⟨z1,z2⟩:=cells_of hbz
     unfold S6 at hend
     have HEnd:=Lib.hid hend
     clear hend hbz hix hx hS3 hg3 hb4
     go_wp2_with fail
     refine bodyPost_ret (v:=.agg #[.int .i64 (op:Int),.int .i64 0,.int .i64 0,.string ⟨#[]⟩,.string ⟨#[]⟩,.slice (some ⟨w3.heap.size,0,none⟩) 1 1]) (by simp [results,Tryz.results221,go_sem,z1]) rfl ?_
     obtain ⟨e1,e2,e3⟩:=HEnd.out
     exact ⟨_,_,1,1,k',rfl,e1,rfl,by omega,e2,e3⟩
structure FI (w0:World) (P:Nat) (A:Option Addr) (c:Nat) (L:List Tk) (w:World) (k:Nat) (X:Nat) (x:Ex) (d:Nd) (B:Option Addr) (m cp:Nat) (wr:World) (k':Nat):Prop where
 box:wr.heap[X]?=some (.cells #[.int .i64 d.op,.int .i64 d.k,.int .i64 d.n,.string d.s,.string d.nm,.slice B m cp] 50 (0,0))
 is:IsP (fun b => w.heap.size < b/\b ≠ X) wr x d B m
 st:St w0 P A c L wr k'
 res:Boxz wr w.heap.size
 grown:w.grownBy wr (some P)
 le:k<=k'
 lt:w.heap.size < X
theorem FI.keep {X:Nat} {x:Ex} {d:Nd} {B:Option Addr} {m cp:Nat} {wr w1:World} {k' k2:Nat} (h:FI w0 P A c L w k X x d B m cp wr k') (hl:P < w.heap.size) (hS:St w0 P A c L w1 k2) (hg:wr.grownBy w1 (some P)) (hk:k'<=k2):FI w0 P A c L w k X x d B m cp w1 k2 :=
 ⟨(hg.block X (Array.getElem?_eq_some_iff.1 h.box).1 (fun e => by injection e with e; have:=h.lt; omega)).trans h.box,
  IsP.keep (fun b hb hlt => hg.block b hlt (fun e => by injection e with e; have:=hb.1; omega)) (fun _ hb _ => hb) _ _ _ _ h.is,hS,boxz_grown h.res hg (by omega),grown_trans h.grown hg,Nat.le_trans h.le hk,h.lt⟩
theorem FI.step {X:Nat} {x y:Ex} {d dy:Nd} {B By:Option Addr} {m cp my cy:Nat} {wr w2:World} {k1 k2 op:Nat} (h:FI w0 P A c L w k X x d B m cp wr k1) (hl:P < w.heap.size) (hP:w0.heap.size<=P) (hx:IsP (fun b => wr.heap.size<=b) w2 y dy By my) (hS:St w0 P A c L w2 k2) (hg:wr.grownBy w2 (some P)) (hk:k1<=k2) :
  FI w0 P A c L w k X (opN op [x,y]) ⟨(op:Int),0,0,⟨#[]⟩,⟨#[]⟩⟩ (some ⟨w2.heap.size,0,none⟩) 2 2 (S6 (w2.alloc (.cells #[.int .i64 d.op,.int .i64 d.k,.int .i64 d.n,.string d.s,.string d.nm,.slice B m cp,.int .i64 dy.op,.int .i64 dy.k,.int .i64 dy.n,.string dy.s,.string dy.nm,.slice By my cy] 50)) X (.int .i64 (op:Int)) (.int .i64 0) (.int .i64 0) (.string ⟨#[]⟩) (.string ⟨#[]⟩) (.slice (some ⟨w2.heap.size,0,none⟩) 2 2)) k2:=by
 have h2:=h.keep hl hS hg hk
 have hXl:=(Array.getElem?_eq_some_iff.1 h2.box).1
 have hXr:=(Array.getElem?_eq_some_iff.1 h.box).1
 have hwr:=h.grown.size
 have hs2:=hg.size
 obtain ⟨W,hW⟩:∃ W,w2.alloc (.cells #[.int .i64 d.op,.int .i64 d.k,.int .i64 d.n,.string d.s,.string d.nm,.slice B m cp,.int .i64 dy.op,.int .i64 dy.k,.int .i64 dy.n,.string dy.s,.string dy.nm,.slice By my cy] 50)=W:=⟨_,rfl⟩
 have hbn:Below w2.heap.size w2 W:=by rw [← hW]; exact b_new _ _
 have hnew:W.heap[w2.heap.size]?=some (.cells #[.int .i64 d.op,.int .i64 d.k,.int .i64 d.n,.string d.s,.string d.nm,.slice B m cp,.int .i64 dy.op,.int .i64 dy.k,.int .i64 dy.n,.string dy.s,.string dy.nm,.slice By my cy] 50 (0,0)):=by rw [← hW]; exact World.alloc_heap_new w2 _
 have hsW:W.heap.size=w2.heap.size + 1:=by rw [← hW]; simp
 rw [hW]
 have hh:=fun b (hb:b ≠ X) => s6_heap W X b hb (.int .i64 (op:Int)) (.int .i64 0) (.int .i64 0) (.string ⟨#[]⟩) (.string ⟨#[]⟩) (.slice (some ⟨w2.heap.size,0,none⟩) 2 2)
 have hgS:=s6_grown W X (.int .i64 (op:Int)) (.int .i64 0) (.int .i64 0) (.string ⟨#[]⟩) (.string ⟨#[]⟩) (.slice (some ⟨w2.heap.size,0,none⟩) 2 2)
 have hwl:=h.lt
 have hxW:IsP (fun b => w.heap.size < b/\b ≠ X) W x d B m:=IsP.below h2.is hbn
 have hyW:IsP (fun b => w.heap.size < b/\b ≠ X) W y dy By my:=(IsP.below hx hbn).imp fun b hb _ => by have h1:wr.heap.size<=b:=hb; exact ⟨by omega,by omega⟩
 have hrow:IsP (fun b => w.heap.size < b/\b ≠ X) W (opN op [x,y]) ⟨(op:Int),0,0,⟨#[]⟩,⟨#[]⟩⟩ (some ⟨w2.heap.size,0,none⟩) 2:=by
  have:=isP_row (P:=fun b => w.heap.size < b/\b ≠ X) (w:=W) (d:=⟨(op:Int),0,0,⟨#[]⟩,⟨#[]⟩⟩) (es:=[⟨x,d,B,m,cp⟩,⟨y,dy,By,my,cy⟩]) (g:=w2.heap.size) (fun j hj => by unfold World.cell?; rw [hnew]; simp [elC,El.cells]) ⟨by omega,by omega⟩ (by unfold maxLen; simp) (Nat.zero_le _) (Nat.zero_le _) (fun e he => by
   simp at he
   rcases he with rfl | rfl
   ·exact hxW
   ·exact hyW)
  exact this
 have hSW:=hS.keep hbn
 have hlP:=hSW.lt
 refine ⟨set6_box ((hbn.block X hXl).trans h2.box) _ _ _ _ _ _,IsP.keep (fun b hb _ => hh b hb.2) (fun _ hb _ => hb) _ _ _ _ hrow,⟨(hh P (by omega)).trans hSW.prs,?_,hS.le⟩,?_,?_,h2.le,h.lt⟩
 ·exact hSW.below.grown hgS hSW.below.size (fun j e => by injection e with e; have:=h.st.below.size; omega)
 ·exact (hh _ (by omega)).trans (boxz_keep h2.res hbn)
 ·refine ⟨hgS.os.trans (hbn.os.trans h2.grown.os),hgS.tape.trans (hbn.tape.trans h2.grown.tape),hgS.output.trans (hbn.output.trans h2.grown.output),by rw [s6_size]; omega,fun b hb hne => (hh b (by omega)).trans ((hbn.block b (by omega)).trans (h2.grown.block b hb hne))⟩
theorem s6_alloc (W:World) (o:Obj) (B:Nat) (h:B < W.heap.size) (u0 u1 u2 u3 u4 u5:Value):S6 (W.alloc o) B u0 u1 u2 u3 u4 u5=(S6 W B u0 u1 u2 u3 u4 u5).alloc o:=by
 unfold S6
 have a:∀ (V:World) (i:Nat) (v:Value),B < V.heap.size->(V.alloc o).setCell ⟨B,i,none⟩ v=(V.setCell ⟨B,i,none⟩ v).alloc o:=fun V i v hV => World.setCell_alloc_past o B i v hV
 rw [a _ _ _ h,a _ _ _ (by rw [sz_set]; exact h),a _ _ _ (by simp only [sz_set]; exact h),a _ _ _ (by simp only [sz_set]; exact h),a _ _ _ (by simp only [sz_set]; exact h),a _ _ _ (by simp only [sz_set]; exact h)]
theorem FI.done {X:Nat} {x:Ex} {d:Nd} {B:Option Addr} {m cp:Nat} {wr:World} {k':Nat} (h:FI w0 P A c L w k X x d B m cp wr k') (hS:St w0 P A c L w k) (hP:w0.heap.size<=P) :
  IsP (fun b => w.heap.size<=b) (S6 wr w.heap.size (.int .i64 d.op) (.int .i64 d.k) (.int .i64 d.n) (.string d.s) (.string d.nm) (.slice B m cp)) x d B m/\St w0 P A c L (S6 wr w.heap.size (.int .i64 d.op) (.int .i64 d.k) (.int .i64 d.n) (.string d.s) (.string d.nm) (.slice B m cp)) k'/\w.grownBy (S6 wr w.heap.size (.int .i64 d.op) (.int .i64 d.k) (.int .i64 d.n) (.string d.s) (.string d.nm) (.slice B m cp)) (some P) :=
 put_res hS hP (h.is.imp fun b hb _ => hb.1) h.st h.res h.grown
end
end PsF
namespace PsT2
open Go.RowKit
open LexM ExM Kit ExL ExP PsM PsT NmC Ps PsR PsL PsA PsF
set_option linter.unusedVariables false
section
variable {w0:World} {P:Nat} {A:Option Addr} {c:Nat} {L:List Tk}
def left (P n:Nat) (w:World):Nat:=match w.cell? ⟨P,1,none⟩ with | some (.int _ k) => n - k.toNat | _ => 0
theorem left_st {w:World} {k:Nat} (h:St w0 P A c L w k):left P L.length w=L.length - k:=by
 unfold left; rw [h.at.2]; simp
def after (F q:Nat) (o:Out):Out:=match o with | .ok (x :: _) r => run F (.loop q x) r | o => o
theorem run_form (F q:Nat) (h:q ≠ 5) (ts:List Tk):run (F + 1) (.form q) ts=after F q (run F (.form (q + 1)) ts):=by
 simp only [run,if_neg h,after]
 cases run F (.form (q + 1)) ts with
 | ok l r => cases l <;> rfl
 | bad r => rfl
 | tired => rfl
def once (F q op:Nat) (x:Ex) (o:Out):Out:=match o with | .ok (y :: _) r' => if q=2 then .ok [opN op [x,y]] r' else run F (.loop q (opN op [x,y])) r' | o => o
theorem run_loop (F q op:Nat) (x:Ex) (t:Tk) (r:List Tk) (h:PsM.opAt q t.s=some op):run (F + 1) (.loop q x) (t :: r)=once F q op x (run F (.form (q + 1)) r):=by
 simp only [run,h,once]
 cases run F (.form (q + 1)) r with
 | ok l r => cases l <;> rfl
 | bad r => rfl
 | tired => rfl
set_option maxRecDepth 100000 in
set_option maxHeartbeats 16000000 in
theorem form_step (hE:Env w0 P A L) (hFu:Full L) (hSm:Small L) (F:Nat) (hF:∀ f,f<=F->FormC w0 P A c L f):FormC w0 P A c L (F + 1):=by
 intro q w k o hq hrun hne hS
 have hl:=hS.lt
 obtain ⟨V,hV⟩:∃ V,w.alloc (.cells #[.int .i64 0,.int .i64 0,.int .i64 0,.string ⟨#[]⟩,.string ⟨#[]⟩,.slice none 0 0] 50)=V:=⟨_,rfl⟩
 have hSV:=box_new hS
 have hzV:=boxz_at w
 have hbV:=b_new w (.cells #[.int .i64 0,.int .i64 0,.int .i64 0,.string ⟨#[]⟩,.string ⟨#[]⟩,.slice none 0 0] 50)
 rw [hV] at hSV hzV hbV
 by_cases h5:q=5
 ·subst h5
  have HA:=Lib.hid (pref_any hE hFu hSm F hF (F + 1) (by omega) V k o hrun hne hSV)
  have HV:=Lib.hid hV
  have HG:=Lib.hid (grown_below hbV (some P))
  have HZ:=Lib.hid hzV
  have HS:=Lib.hid hS
  have HE:=Lib.hid hE
  clear hF hrun hne hS hV hSV hzV hbV hE
  go_enter Tryz.func193,Tryz.ntmps193
  go_wp2_with fail
  rw [HV.out]
  refine HA.out.mono ?_; intro e w3 he
  cases o with
  | tired => exact he.elim
  | bad r' =>
   obtain ⟨v,rfl,hw,hg⟩:=he
   have HW:=Lib.hid (And.intro hw hg)
   clear hw hg
   go_wp2_with fail
   exact ⟨rfl,v,rfl,HW.out.1,grown_trans HG.out HW.out.2⟩
  | ok l r' =>
   match l,he with
   | [],he => exact he.elim
   | x :: y :: l,he => exact he.elim
   | [x],he =>
    obtain ⟨d,B,n,c2,k',rfl,hix,rfl,hk',hS3,hg3⟩:=he
    obtain ⟨hbz,hend⟩:=fin_box (cp:=c2) HS.out HE.out HG.out HZ.out hix hS3 hg3
    obtain ⟨z1,z2⟩:=cells_of hbz
    unfold S6 at hend
    have HEnd:=Lib.hid hend
    clear hend hbz hix hS3 hg3
    go_wp2_with fail
    refine bodyPost_ret (v:=.agg #[.int .i64 d.op,.int .i64 d.k,.int .i64 d.n,.string d.s,.string d.nm,.slice B n c2]) (by simp [results,Tryz.results193,go_sem,z1]) rfl ?_
    obtain ⟨e1,e2,e3⟩:=HEnd.out
    exact ⟨d,B,n,c2,k',rfl,e1,rfl,hk',e2,e3⟩
 ·have t5:((q:Int) == 5)=false:=beq_eq_false_iff_ne.2 (by omega)
  have hw1:IntKind.i64.wrap ((q:Int) + 1)=(q:Int) + 1:=IntWalk.i64_in _ (by omega)
  obtain ⟨o1,ho1⟩:∃ o1,run F (.form (q + 1)) (L.drop k)=o1:=⟨_,rfl⟩
  have hrun1:after F q o1=o:=by rw [run_form F q h5,ho1] at hrun; exact hrun
  have hne1:o1 ≠ .tired:=fun e => hne (by rw [← hrun1,e]; rfl)
  have hc1:=hF F (Nat.le_refl _) (q + 1) V k o1 (by omega) ho1 hne1 hSV
  rw [show (((q + 1:Nat)):Int)=(q:Int) + 1 from rfl] at hc1
  have HC1:=Lib.hid hc1
  have HF:=Lib.hid hF
  have HV:=Lib.hid hV
  have HG:=Lib.hid (grown_below hbV (some P))
  have HZ:=Lib.hid hzV
  have HS:=Lib.hid hS
  have HE:=Lib.hid hE
  have HRun:=Lib.hid hrun1
  have HNe:=Lib.hid hne
  have HO1:=Lib.hid ho1
  clear hF hrun hne hS hV hSV hzV hbV hE hc1 hrun1 ho1 hne1
  go_enter Tryz.func193,Tryz.ntmps193
  go_wp2_with fail
  rw [HV.out]
  refine HC1.out.mono ?_; intro e w3 he
  cases o1 with
  | tired => exact he.elim
  | bad r' =>
   obtain ⟨v,rfl,hw,hg⟩:=he
   obtain rfl:=HRun.out
   have HW:=Lib.hid (And.intro hw hg)
   clear hw hg
   go_wp2_with fail
   exact ⟨rfl,v,rfl,HW.out.1,grown_trans HG.out HW.out.2⟩
  | ok l r' =>
   match l,he with
   | [],he => exact he.elim
   | x :: y :: l,he => exact he.elim
   | [x],he =>
    obtain ⟨d,B,n,c2,k1,rfl,hix,rfl,hk1,hS3,hg3⟩:=he
    have hrun2:run F (.loop q x) (L.drop k1)=o:=HRun.out
    have hb4:=b_new w3 (.cells #[.int .i64 d.op,.int .i64 d.k,.int .i64 d.n,.string d.s,.string d.nm,.slice B n c2] 50)
    have hz3:=boxz_grown HZ.out hg3 (by omega)
    have hsV:w.heap.size < V.heap.size:=(Array.getElem?_eq_some_iff.1 HZ.out).1
    have hs3:=hg3.size
    have hI0:FI w0 P A c L w k w3.heap.size x d B n c2 (w3.alloc (.cells #[.int .i64 d.op,.int .i64 d.k,.int .i64 d.n,.string d.s,.string d.nm,.slice B n c2] 50)) k1 :=
     ⟨World.alloc_heap_new w3 _,(IsP.keep (fun b _ hb => (hb4.block b hb)) (fun b hb hlt => ⟨by have h1:V.heap.size<=b:=hb; omega,by omega⟩) _ _ _ _ hix),hS3.keep hb4,boxz_keep hz3 hb4,grown_trans HG.out (grown_trans hg3 (grown_below hb4 _)),hk1,by omega⟩
    have HI0:=Lib.hid hI0
    have HRun2:=Lib.hid hrun2
    clear hI0 hb4 hz3 hix hS3 hg3 hrun2 HC1 HZ
    go_wp2_with fail
    go_loopw [6] (fun _ wr => ∃ (x:Ex) (d:Nd) (B:Option Addr) (m cp k' f2:Nat),FI w0 P A c L w k w3.heap.size x d B m cp wr k'/\f2<=F/\run f2 (.loop q x) (L.drop k')=o) (fun _ wr => left P L.length wr)
    case atStart => exact ⟨x,d,B,n,c2,k1,F,HI0.out,Nat.le_refl _,HRun2.out⟩
    case round =>
     clear HI0 HRun2 HO1 HRun hk1
     obtain ⟨x,d,B,m,cp,k',f2,hI,hf2,hrunL⟩:=hrel
     obtain ⟨f3,rfl⟩:∃ g,f2=g + 1:=by
      cases f2 with
      | zero => exact absurd hrunL.symm HNe.out
      | succ f => exact ⟨f,rfl⟩
     have hleft:=left_st hI.st
     cases hop:opNext q (L.drop k') with
     | none =>
      have ho:o=.ok [x] (L.drop k'):=by
       rw [← hrunL]
       cases hd:L.drop k' with
       | nil => simp [run]
       | cons t r =>
        rw [hd] at hop
        have hop':PsM.opAt q t.s=none:=hop
        simp only [run,hop']
      subst ho
      have HO:=Lib.hid (operator_no HE.out hI.st hFu q (by omega) hop)
      have HI:=Lib.hid hI
      clear hI hop hrunL
      go_wp2_with fail
      refine HO.out.mono ?_; rintro e w4 ⟨rfl,hb4⟩
      have hI4:=HI.out.keep hl (HI.out.st.keep hb4) (grown_below hb4 _) (Nat.le_refl _)
      have hend:=hI4.done HS.out HE.out.hP
      obtain ⟨y1,y2⟩:=cells_of hI4.box
      obtain ⟨z1,z2⟩:=cells_of hI4.res
      unfold S6 at hend
      have HEnd:=Lib.hid (And.intro hI4.le hend)
      clear hend hI4 hb4 HI HO
      go_wp2_with fail
      refine bodyPost_ret (v:=.agg #[.int .i64 d.op,.int .i64 d.k,.int .i64 d.n,.string d.s,.string d.nm,.slice B m cp]) (by simp [results,Tryz.results193,go_sem,z1]) rfl ?_
      obtain ⟨e0,e1,e2,e3⟩:=HEnd.out
      exact ⟨d,B,m,cp,k',rfl,e1,rfl,e0,e2,e3⟩
     | some op =>
      obtain ⟨t,r,hd⟩:∃ t r,L.drop k'=t :: r:=by
       cases hd:L.drop k' with
       | nil => rw [hd] at hop; cases hop
       | cons t r => exact ⟨t,r,rfl⟩
      obtain ⟨hk',ht,hr⟩:=drop_cons hd
      have hop':PsM.opAt q t.s=some op:=by rw [hd] at hop; exact hop
      have hob:=opAt_bounds hop' (hFu t (by rw [ht]; exact List.getElem_mem _))
      rw [hd,run_loop f3 q op x t r hop',hr] at hrunL
      obtain ⟨o3,ho3⟩:∃ o3,run f3 (.form (q + 1)) (L.drop (k' + 1))=o3:=⟨_,rfl⟩
      rw [ho3] at hrunL
      have hne3:o3 ≠ .tired:=fun e => HNe.out (by rw [← hrunL,e]; rfl)
      have hone:∀ l r,o3=.ok l r->∃ y,l=[y]:=fun l r e => run_form_one f3 (.form (q + 1)) _ l r (fun n acc => by simp) (ho3.trans e)
      have HOne:=Lib.hid hone
      clear hone
      have t6:((op:Int) == 0)=false:=beq_eq_false_iff_ne.2 (by omega)
      have HO:=Lib.hid (operator_yes HE.out hI.st hFu q op hop)
      have HI:=Lib.hid hI
      have HR3:=Lib.hid hrunL
      have HC3:=Lib.hid (fun (W:World) (hW:St w0 P A c L W (k' + 1)) => HF.out f3 (by omega) (q + 1) W (k' + 1) o3 (by omega) ho3 hne3 hW)
      clear hI hop hop' hrunL hd ht hr ho3 hne3
      go_wp2_with fail
      refine HO.out.mono ?_; rintro e w4 ⟨rfl,hk4,hS4,hg4⟩
      have hI4:=HI.out.keep hl hS4 hg4 (Nat.le_succ _)
      have HI4:=Lib.hid hI4
      clear HO HI hg4 hS4 hI4
      have hc3:∀ W,Below w4.heap.size w4 W->Calls Tryz.prog 193 #[.pointer (some ⟨P,0,none⟩),.int .i64 ((q:Int) + 1)] W (PsL.Ends w0 P A c L W (k' + 1) o3):=fun W hW => by
       have:=HC3.out W (HI4.out.st.keep hW)
       rw [show (((q + 1:Nat)):Int)=(q:Int) + 1 from rfl] at this; exact this
      have HC:=Lib.hid hc3
      have hbl:=Below.refl w4.heap.size w4
      obtain ⟨y1,y2⟩:=cells_of HI4.out.box
      have y3:=(Array.getElem?_eq_some_iff.1 HI4.out.box).1
      clear hc3 HC3
      cases o3 with
      | tired => exact absurd HR3.out.symm HNe.out
      | bad r3 =>
       obtain rfl:=HR3.out
       go_wp2_with fail
       have hfin:∀ W w5 v,Below w4.heap.size w4 W->Wrong v r3/\W.grownBy w5 (some P)->PsL.Ends w0 P A c L w k (.bad r3) (.panicked [{ v:=v,recovered:=false }]) w5:=fun W w5 v hW h => ⟨v,rfl,h.1,grown_trans HI4.out.grown (grown_trans (grown_below hW _) h.2)⟩
       have HFin:=Lib.hid hfin
       clear hfin
       go_region_dies
       all_goals
        refine (HC.out _ (by first | exact b_drew hbl | exact hbl)).mono ?_
        rintro e w5 ⟨v,rfl,hw,hg5⟩
        have HW:=Lib.hid (HFin.out _ w5 v (b_drew hbl) ⟨hw,hg5⟩)
        clear hw hg5
        go_wp2_with fail
        exact ⟨rfl,HW.out⟩
      | ok l3 r3 =>
       obtain ⟨y,rfl⟩:=HOne.out l3 r3 rfl
       go_upto_region 7 with fail
       go_cut [6] (fun _ wx => ∃ (dy:Nd) (By:Option Addr) (my cy k2 g:Nat),r3=L.drop k2/\k' + 1<=k2/\FI w0 P A c L w k w3.heap.size (opN op [x,y]) ⟨(op:Int),0,0,⟨#[]⟩,⟨#[]⟩⟩ (some ⟨g,0,none⟩) 2 2 wx k2)
       case first =>
        go_region_with (go_at_call 193; (with_reducible refine (HC.out _ ?_).mono ?_); (first | exact hbl | exact b_drew hbl); rintro e w5 ⟨dy,By,my,cy,k2,rfl,hy5,hr5,hk5,hS5,hg5⟩; have hg6:w4.grownBy w5 (some P):=(by first | exact hg5 | exact grown_trans (grown_below (b_drew (Below.refl _ _)) _) hg5); have hI5:=HI4.out.keep hl hS5 hg6 hk5; have hN:=HI4.out.step (op:=op) (cy:=cy) hl HE.out.hP hy5 hS5 hg6 hk5; obtain ⟨x1,x2⟩:=cells_of hI5.box; have x3:=(Array.getElem?_eq_some_iff.1 hI5.box).1; rw [s6_alloc _ _ _ x3] at hN; unfold S6 at hN; have HN:=Lib.hid (And.intro hr5 (And.intro hk5 hN)); clear hN hI5 hg6 hy5 hr5 hk5 hS5 hg5)
        all_goals (go_wp2_with fail; go_meet)
        all_goals (with_reducible exact ⟨dy,By,my,cy,k2,w5.heap.size,HN.out.1,HN.out.2.1,HN.out.2.2⟩)
       case rest =>
        obtain ⟨dy,By,my,cy,k2,g,rfl,hk6,hI6⟩:=hcut
        have hres:once f3 q op x (.ok [y] (L.drop k2))=o:=HR3.out
        have hleft6:=left_st hI6.st
        have hle6:=hI6.st.le
        by_cases hq2:q=2
        ·subst hq2
         have t7:(((2:Nat):Int) == 2)=true:=rfl
         simp only [once,if_true] at hres
         subst hres
         have hend:=hI6.done HS.out HE.out.hP
         obtain ⟨x1,x2⟩:=cells_of hI6.box
         obtain ⟨z1,z2⟩:=cells_of hI6.res
         have hn1:w3.heap.size ≠ w.heap.size:=by have:=hI6.lt; omega
         unfold S6 at hend
         have HEnd:=Lib.hid (And.intro hI6.le hend)
         clear hend hI6 y1 y2 y3 HR3 HOne HC
         go_wp2_with fail
         refine bodyPost_ret (v:=.agg #[.int .i64 (op:Int),.int .i64 0,.int .i64 0,.string ⟨#[]⟩,.string ⟨#[]⟩,.slice (some ⟨g,0,none⟩) 2 2]) (by simp [results,Tryz.results193,go_sem,z1]) rfl ?_
         obtain ⟨e0,e1,e2,e3⟩:=HEnd.out
         exact ⟨_,_,2,2,k2,rfl,e1,rfl,e0,e2,e3⟩
        ·have t7:((q:Int) == 2)=false:=beq_eq_false_iff_ne.2 (by omega)
         simp only [once,if_neg hq2] at hres
         have HI6:=Lib.hid hI6
         have HRes:=Lib.hid hres
         clear hI6 hres y1 y2 y3 HR3 HOne HC
         go_wp2_with fail
         go_roundw
         case rel => exact ⟨_,_,_,2,2,k2,f3,HI6.out,by omega,HRes.out⟩
         case measure => rw [hleft6,hleft]; omega
theorem form_all (hE:Env w0 P A L) (hFu:Full L) (hSm:Small L):∀ f,FormC w0 P A c L f:=by
 intro f
 induction f using Nat.strongRecOn with
 | ind f ih =>
  cases f with
  | zero => intro q w k o _ hrun hne; exact absurd hrun.symm hne
  | succ F => exact form_step hE hFu hSm F fun g hg => ih g (by omega)
end
end PsT2
namespace PsTot
open LexM ExM PsM
def Shape (b:Nat) (o:Out):Prop:=(∃ x r,o=.ok [x] r/\r.length < b) ∨ ∃ r,o=.bad r
def Done (ts:List Tk):Prop:=(∀ q,q<=5->∃ o,Ev (.form q) ts o/\Shape ts.length o)/\(∀ q x,q<=4->∃ o,Ev (.loop q x) ts o/\Shape (ts.length + 1) o) ∧
 (∀ n acc,∃ o,Ev (.list n acc) ts o/\((∃ l r,o=.ok l r/\r.length < ts.length) ∨ ∃ r,o=.bad r)/\(∀ r,acc.length + 1=n->∀ l,o=.ok l r->∃ y,l=acc ++ [y]))
theorem tail_len {r:List Tk} {s:List UInt8} (h:isNext s r=true):r.tail.length < r.length:=by
 cases r with
 | nil => simp [isNext] at h
 | cons t r => simp
theorem wrap_shape {op b:Nat} {o:Out} (h:(∃ l r,o=.ok l r/\r.length < b) ∨ ∃ r,o=.bad r):Shape b (wrap op o):=by
 rcases h with ⟨l,r,rfl,h⟩ | ⟨r,rfl⟩
 ·exact .inl ⟨_,r,rfl,h⟩
 ·exact .inr ⟨r,rfl⟩
theorem Shape.any {b:Nat} {o:Out} (h:Shape b o):(∃ l r,o=.ok l r/\r.length < b) ∨ ∃ r,o=.bad r:=by
 rcases h with ⟨x,r,h1,h2⟩ | h
 ·exact .inl ⟨_,r,h1,h2⟩
 ·exact .inr h
theorem Shape.mono {b b':Nat} {o:Out} (h:Shape b o) (hb:b<=b'):Shape b' o:=by
 rcases h with ⟨x,r,h1,h2⟩ | h
 ·exact .inl ⟨x,r,h1,by omega⟩
 ·exact .inr h
theorem done_all : ∀ (n : Nat) (ts : List Tk), ts.length ≤ n → Done ts := by
  intro n
  induction n using Nat.strongRecOn with
  | ind n ih =>
  intro ts hn
  have sh : ∀ us : List Tk, us.length < ts.length → Done us := fun us h => ih us.length (by omega) us (Nat.le_refl _)
  have h5 : ∃ o, Ev (.form 5) ts o ∧ Shape ts.length o := by
    cases ts with
    | nil => exact ⟨_, ev_end, .inr ⟨_, rfl⟩⟩
    | cons t r =>
      have hr := sh r (by simp)
      cases e5 : PsM.opAt 5 t.s with
      | some op =>
        obtain ⟨o, h1, h2⟩ := hr.1 5 (by omega)
        exact ⟨_, ev_prefix e5 h1, wrap_shape ((h2.mono (by simp)).any)⟩
      | none =>
        by_cases hp : t.s = [40]
        · obtain ⟨o, h1, h2, h3⟩ := hr.2.2 1 []
          refine ⟨o, ev_paren e5 hp h1, ?_⟩
          rcases h2 with ⟨l, r', rfl, h⟩ | h
          · obtain ⟨y, rfl⟩ := h3 r' rfl l rfl
            exact .inl ⟨y, r', rfl, by simp; omega⟩
          · exact .inr h
        · cases e6 : PsM.opAt 6 t.s with
          | some op =>
            cases hi : isNext [40] r with
            | false => exact ⟨_, ev_call_bad e5 hp e6 hi, .inr ⟨_, rfl⟩⟩
            | true =>
              have ht := tail_len hi
              obtain ⟨o, h1, h2, _⟩ := (sh r.tail (by simp at ht ⊢; omega)).2.2 (arity op) []
              refine ⟨_, ev_call e5 hp e6 hi h1, wrap_shape ?_⟩
              rcases h2 with ⟨l, r', h, g⟩ | h
              · exact .inl ⟨l, r', h, by simp at g ⊢; omega⟩
              · exact .inr h
          | none =>
            cases hl : leafN t with
            | some x => exact ⟨_, ev_leaf e5 hp e6 hl, .inl ⟨x, r, rfl, by simp⟩⟩
            | none => exact ⟨_, ev_leaf_bad e5 hp e6 hl, .inr ⟨_, rfl⟩⟩
  have hf : ∀ j q, q + j = 5 → ∃ o, Ev (.form q) ts o ∧ Shape ts.length o := by
    intro j
    induction j with
    | zero => intro q hq; obtain rfl : q = 5 := by omega
              exact h5
    | succ j ihj =>
      intro q hq
      obtain ⟨o, h1, h2⟩ := ihj (q + 1) (by omega)
      rcases h2 with ⟨x, r, rfl, h⟩ | ⟨r, rfl⟩
      · obtain ⟨o2, g1, g2⟩ := (sh r h).2.1 q x (by omega)
        exact ⟨o2, ev_form (by omega) h1 g1, g2.mono (by omega)⟩
      · exact ⟨_, ev_form_bad (by omega) h1, .inr ⟨r, rfl⟩⟩
  refine ⟨fun q hq => hf (5 - q) q (by omega), fun q x hq => ?_, fun m acc => ?_⟩
  · cases ts with
    | nil => exact ⟨_, ev_loop_end, .inl ⟨x, [], rfl, by simp⟩⟩
    | cons t r =>
      cases e : PsM.opAt q t.s with
      | none => exact ⟨_, ev_loop_none e, .inl ⟨x, _, rfl, by simp⟩⟩
      | some op =>
        obtain ⟨o, h1, h2⟩ := (sh r (by simp)).1 (q + 1) (by omega)
        rcases h2 with ⟨y, r', rfl, h⟩ | ⟨r', rfl⟩
        · by_cases h22 : q = 2
          · subst h22
            exact ⟨_, ev_loop_once e h1, .inl ⟨_, r', rfl, by simp; omega⟩⟩
          · obtain ⟨o2, g1, g2⟩ := (sh r' (by simp; omega)).2.1 q (opN op [x, y]) hq
            exact ⟨o2, ev_loop_more h22 e h1 g1, g2.mono (by simp; omega)⟩
        · exact ⟨_, ev_loop_bad e h1, .inr ⟨r', rfl⟩⟩
  · obtain ⟨o, h1, h2⟩ := hf 5 0 rfl
    rcases h2 with ⟨x, r, rfl, h⟩ | ⟨r, rfl⟩
    · by_cases hm : acc.length + 1 < m
      · cases hi : isNext [44] r with
        | false => exact ⟨_, ev_list_more_bad h1 hm hi, .inr ⟨r, rfl⟩, fun r' hacc l e => by cases e⟩
        | true =>
          have ht := tail_len hi
          obtain ⟨o2, g1, g2, _⟩ := (sh r.tail (by omega)).2.2 m (acc ++ [x])
          refine ⟨o2, ev_list_more h1 hm hi g1, ?_, fun r' hacc => by omega⟩
          rcases g2 with ⟨l, r', e, g⟩ | g
          · exact .inl ⟨l, r', e, by omega⟩
          · exact .inr g
      · cases hi : isNext [41] r with
        | false => exact ⟨_, ev_list_last_bad h1 hm hi, .inr ⟨r, rfl⟩, fun r' hacc l e => by cases e⟩
        | true =>
          have ht := tail_len hi
          refine ⟨_, ev_list_last h1 hm hi, .inl ⟨_, _, rfl, by omega⟩, fun r' hacc l e => ?_⟩
          simp only [Out.ok.injEq] at e
          exact ⟨x, e.1.symm⟩
    · exact ⟨_, ev_list_bad h1, .inr ⟨r, rfl⟩, fun r' hacc l e => by cases e⟩
theorem form_total (ts:List Tk):∃ o,Ev (.form 0) ts o/\Shape ts.length o:=(done_all ts.length ts (Nat.le_refl _)).1 0 (by omega)
end PsTot
end Go.Proofs.YtdefaeieiaegaaaGreatDoor
