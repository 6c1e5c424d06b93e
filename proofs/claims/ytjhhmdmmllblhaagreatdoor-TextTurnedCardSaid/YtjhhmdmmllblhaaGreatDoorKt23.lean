/- PrU TxPf TxField: what these laws name of them. -/
import Derived.Test.YtjhhmdmmllblhaaGreatDoorKt22
namespace Go.Proofs.YtjhhmdmmllblhaaGreatDoor
set_option linter.unusedVariables false
namespace PrU
open Go.RowKit
open LexM ExM Kit ExL ExP PsM PsT NmC Ps PsR PsD PsE
set_option linter.unusedVariables false
def GoodN:Job->List Tk->List Ex->List Tk->Prop
 | .form _,ts,L,r => ∃ x,L=[x]/\x.nodes + r.length<=ts.length
 | .loop _ x,ts,L,r => ∃ y,L=[y]/\y.nodes + r.length<=x.nodes + ts.length
 | .list _ acc,ts,L,r => nodesL L + r.length<=nodesL acc + ts.length
theorem nodes_opN (op:Nat) (l:List Ex):(opN op l).nodes=1 + nodesL l:=nodes_mk _ _
theorem leaf_nodes {t:Tk} {x:Ex} (h:leafN t=some x):x.nodes=1:=by
 unfold leafN at h
 repeat' split at h
 all_goals first | (cases h; done) | (injection h with h; subst h; rw [nodes_mk,nodesL_nil])
theorem next_len {s:List UInt8} {r:List Tk} (h:isNext s r=true):r.length=1 + r.tail.length:=by
 cases r with
 | nil => simp [isNext] at h
 | cons t r => simp; omega
theorem run_nodes:∀ (f:Nat) (j:Job) (ts:List Tk) (L:List Ex) (r:List Tk),run f j ts=.ok L r->GoodN j ts L r
 | 0,j,ts,L,r,h => by simp [run] at h
 | f + 1,.form q,ts,L,r,h => by
  unfold run at h
  split at h
  ·cases ts with
   | nil => cases h
   | cons t r0 =>
    simp only at h
    split at h
    ·rename_i op hop
     cases hr:run f (.form 5) r0 with
     | bad _ => rw [hr] at h; cases h
     | tired => rw [hr] at h; cases h
     | ok L' r' =>
      rw [hr] at h
      simp only [wrap,Out.ok.injEq] at h
      obtain ⟨rfl,rfl⟩:=h
      obtain ⟨x,rfl,hx⟩:=run_nodes f (.form 5) _ _ _ hr
      exact ⟨_,rfl,by rw [nodes_opN,nodesL_cons,nodesL_nil,List.length_cons]; omega⟩
    ·split at h
     ·have hC:=run_nodes f (.list 1 []) _ _ _ h
      obtain ⟨y,hy⟩:=PsL.run_form_one.run_list_one f 1 [] r0 L r rfl h
      subst hy
      have hC:nodesL ([] ++ [y]) + r.length<=nodesL [] + r0.length:=hC
      rw [List.nil_append,nodesL_cons,nodesL_nil] at hC
      exact ⟨y,rfl,by rw [List.length_cons]; omega⟩
     ·split at h
      ·rename_i op hop
       split at h
       ·rename_i hnx
        have hn:=next_len hnx
        cases hr:run f (.list (arity op) []) r0.tail with
        | bad _ => rw [hr] at h; cases h
        | tired => rw [hr] at h; cases h
        | ok L' r' =>
         rw [hr] at h
         simp only [wrap,Out.ok.injEq] at h
         obtain ⟨rfl,rfl⟩:=h
         have hC:nodesL L' + r'.length<=nodesL [] + r0.tail.length:=run_nodes f (.list (arity op) []) _ _ _ hr
         rw [nodesL_nil] at hC
         exact ⟨_,rfl,by rw [nodes_opN,List.length_cons]; omega⟩
       ·cases h
      ·split at h
       ·rename_i x hx
        simp only [Out.ok.injEq] at h
        obtain ⟨rfl,rfl⟩:=h
        exact ⟨x,rfl,by rw [leaf_nodes hx,List.length_cons]; omega⟩
       ·cases h
  ·cases hr:run f (.form (q + 1)) ts with
   | bad _ => rw [hr] at h; cases h
   | tired => rw [hr] at h; cases h
   | ok L' r' =>
    rw [hr] at h
    obtain ⟨x,rfl,hx⟩:=run_nodes f (.form (q + 1)) _ _ _ hr
    simp only at h
    obtain ⟨y,rfl,hy⟩:=run_nodes f (.loop q x) _ _ _ h
    exact ⟨y,rfl,by omega⟩
 | f + 1,.loop q x,ts,L,r,h => by
  unfold run at h
  cases ts with
  | nil =>
   simp only [Out.ok.injEq] at h
   obtain ⟨rfl,rfl⟩:=h
   exact ⟨x,rfl,Nat.le_refl _⟩
  | cons t r0 =>
   simp only at h
   split at h
   ·simp only [Out.ok.injEq] at h
    obtain ⟨rfl,rfl⟩:=h
    exact ⟨x,rfl,Nat.le_refl _⟩
   ·rename_i op hop
    cases hr:run f (.form (q + 1)) r0 with
    | bad _ => rw [hr] at h; cases h
    | tired => rw [hr] at h; cases h
    | ok L' r' =>
     rw [hr] at h
     obtain ⟨y,rfl,hy⟩:=run_nodes f (.form (q + 1)) _ _ _ hr
     simp only at h
     have hn:(opN op [x,y]).nodes=1 + (x.nodes + y.nodes):=by rw [nodes_opN,nodesL_cons,nodesL_cons,nodesL_nil]; omega
     split at h
     ·simp only [Out.ok.injEq] at h
      obtain ⟨rfl,rfl⟩:=h
      exact ⟨_,rfl,by rw [hn,List.length_cons]; omega⟩
     ·obtain ⟨z,rfl,hz⟩:=run_nodes f (.loop q (opN op [x,y])) _ _ _ h
      exact ⟨z,rfl,by rw [List.length_cons]; omega⟩
 | f + 1,.list n acc,ts,L,r,h => by
  unfold run at h
  cases hr:run f (.form 0) ts with
  | bad _ => rw [hr] at h; cases h
  | tired => rw [hr] at h; cases h
  | ok L' r' =>
   rw [hr] at h
   obtain ⟨x,rfl,hx⟩:=run_nodes f (.form 0) _ _ _ hr
   simp only at h
   split at h
   ·split at h
    ·rename_i hnx
     have hn:=next_len hnx
     have hC:nodesL L + r.length<=nodesL (acc ++ [x]) + r'.tail.length:=run_nodes f (.list n (acc ++ [x])) _ _ _ h
     rw [nodesL_snoc] at hC
     show nodesL L + r.length<=nodesL acc + ts.length
     omega
    ·cases h
   ·split at h
    ·rename_i hnx
     have hn:=next_len hnx
     simp only [Out.ok.injEq] at h
     obtain ⟨rfl,rfl⟩:=h
     show nodesL (acc ++ [x]) + r'.tail.length<=nodesL acc + ts.length
     rw [nodesL_snoc]; omega
    ·cases h
theorem ev_nodes {ts r:List Tk} {x:Ex} (h:Ev (.form 0) ts (.ok [x] r)):x.nodes<=ts.length:=by
 obtain ⟨_,f,hf⟩:=h
 obtain ⟨y,e,hy⟩:=run_nodes f (.form 0) _ _ _ (hf f (Nat.le_refl _))
 injection e with e _; subst e; omega
theorem pr_unique {l:List UInt8} {x y:Ex} {a b p q:Int} (h1:PR l x a p) (h2:PR l y b q):x=y/\a=b/\p=q:=by
 rcases h1 with ⟨n,e,e1,e2,e3,e4,e5⟩ | ⟨ts,o,e1,e2,e3⟩ <;> rcases h2 with ⟨m,f,f1,f2,f3,f4,f5⟩ | ⟨us,u,f1,f2,f3⟩
 ·rw [e1] at f1
  simp only [Prod.mk.injEq,true_and] at f1
  obtain ⟨rfl,rfl⟩:=f1
  exact ⟨e3.trans f3.symm,e4.trans f4.symm,e5.trans f5.symm⟩
 ·rw [e1] at f1
  simp only [Prod.mk.injEq] at f1
  exact absurd f1.2.2 e2
 ·rw [e1] at f1
  simp only [Prod.mk.injEq] at f1
  exact absurd f1.2.2.symm f2
 ·rw [e1] at f1
  simp only [Prod.mk.injEq,and_true] at f1
  subst f1
  obtain rfl:=e2.unique f2
  rcases e3 with ⟨x',rfl,g1,g2,g3⟩ | ⟨r,g0,g1,g2,g3⟩ <;> rcases f3 with ⟨y',h0,h1,h2,h3⟩ | ⟨r',h0,h1,h2,h3⟩
  ·simp only [Out.ok.injEq,List.cons.injEq,and_true] at h0
   subst h0
   exact ⟨g3.trans h3.symm,g1.trans h1.symm,g2.trans h2.symm⟩
  ·exfalso
   rcases h0 with ⟨z,e,hne⟩ | e
   ·simp only [Out.ok.injEq] at e
    exact hne e.2.symm
   ·cases e
  ·exfalso
   rcases g0 with ⟨z,e,hne⟩ | e
   ·rw [h0] at e
    simp only [Out.ok.injEq] at e
    exact hne e.2.symm
   ·rw [h0] at e; cases e
  ·have hr:r=r':=by
    rcases g0 with ⟨z,rfl,_⟩ | rfl <;> rcases h0 with ⟨z',e,_⟩ | e
    ·simp only [Out.ok.injEq] at e; exact e.2
    ·cases e
    ·cases e
    ·simp only [Out.bad.injEq] at e; exact e
   subst hr
   exact ⟨g3.trans h3.symm,g1.trans h1.symm,g2.trans h2.symm⟩
theorem pr_nodes {l:List UInt8} {x:Ex} {a p:Int} (h:PR l x a p):x.nodes<=160:=by
 rcases h with ⟨n,e,e1,e2,e3,e4,e5⟩ | ⟨ts,o,e1,e2,e3⟩
 ·subst e3; decide
 ·have hts:ts.length<=160:=by
   rcases Lex.lex_cases l with ⟨us,h1,h2,h3⟩ | ⟨_,h⟩ | ⟨q,er,us,_,_,he,h,_⟩
   ·rw [h3] at e1
    simp only [Prod.mk.injEq,and_true] at e1
    subst e1
    exact Nat.le_trans (few l 0 us h2) h1
   ·rw [h] at e1
    simp only [Prod.mk.injEq] at e1
    exact absurd e1.2.2 (by decide)
   ·rw [h] at e1
    simp only [Prod.mk.injEq] at e1
    rcases he with rfl | rfl | rfl <;> exact absurd e1.2.2 (by decide)
  rcases e3 with ⟨y,rfl,g1,g2,g3⟩ | ⟨r,g0,g1,g2,g3⟩
  ·have:=ev_nodes e2
   rw [g3]
   split
   ·omega
   ·decide
  ·subst g3; decide
end PrU
namespace TxT
open Go.RowKit
open ValM LexM NumM ExM NmM ShowM PrM Ty Kit ExL ExP ExN ExC RawV Within RawL GenL FrmM FldP FldR FldC TyM PgM TxM TxR PsM PbP PsE PrU
set_option linter.unusedVariables false
open Classical in
noncomputable def pfR (l:List UInt8):Ex × Int:=if h:∃ r:Ex × Int × Int,PR l r.1 r.2.1 r.2.2 then (h.choose.1,h.choose.2.2) else (noX,3)
theorem pf_of {l:List UInt8} {x:Ex} {a er:Int} (h:PR l x a er):pfR l=(x,er):=by
 have hex:∃ r:Ex × Int × Int,PR l r.1 r.2.1 r.2.2:=⟨(x,a,er),h⟩
 unfold pfR
 rw [dif_pos hex]
 obtain ⟨h1,_,h3⟩:=pr_unique hex.choose_spec h
 rw [h1,h3]
theorem pf_fine {x:Ex} (h:x.checkE=0) (hl:(Ex.txt x).length<=160):pfR (Ex.txt x)=(x,0):=by
 obtain ⟨ts,h1,h2⟩:=read_txt (checkE_zero h).2.2 hl
 exact pf_of (a:=0) (.inr ⟨ts,_,h1,h2,.inl ⟨x,rfl,rfl,h.symm,by rw [if_pos h]⟩⟩)
theorem pf_long {l:List UInt8} (hl:160 < l.length):pfR l=(noX,1):=pf_of (a:=0) (.inl ⟨0,1,lexR_long hl,by decide,rfl,rfl,rfl⟩)
theorem pf_or {x:Ex} (h:x.checkE=0):Fine pfR x ∨ Long pfR x:=by
 by_cases hl:(Ex.txt x).length<=160
 ·exact .inl (pf_fine h hl)
 ·exact .inr (by unfold Long; rw [pf_long (by omega)])
theorem lines_twiceF (F:List Fl) (P:List (Pl × Bool)) (k:Nat) (hk:k < F.length) :
  (linesF F P).take k ++ ((linesF F P)[k]'(by unfold linesF; simp; omega) :: (linesF F P).drop k)=linesF (twice F k hk) P:=by
 have e0:(linesF F P)[k]'(by unfold linesF; simp; omega)=flL F[k]:=by
  unfold linesF
  rw [List.getElem_append_left (by rw [List.length_map]; exact hk),List.getElem_map]
 rw [e0]
 unfold linesF twice
 rw [List.take_append_of_le_length (by rw [List.length_map]; omega),List.drop_append_of_le_length (by rw [List.length_map]; omega)]
 simp only [List.map_append,List.map_cons,List.map_take,List.map_drop,List.append_assoc,List.cons_append]
theorem lines_twiceP (F:List Fl) (P:List (Pl × Bool)) (k:Nat) (hk:k < P.length) :
  (linesF F P).take (F.length + k) ++ ((linesF F P)[F.length + k]'(by unfold linesF; simp; omega) :: (linesF F P).drop (F.length + k))=linesF F (twice P k hk):=by
 have e0:(linesF F P)[F.length + k]'(by unfold linesF; simp; omega)=plL P[k]:=by
  unfold linesF
  rw [List.getElem_append_right (by rw [List.length_map]; omega)]
  simp
 rw [e0]
 unfold linesF twice
 rw [List.take_append,List.drop_append,List.length_map,List.take_of_length_le (by rw [List.length_map]; omega),List.drop_eq_nil_of_le (by rw [List.length_map]; omega),show F.length + k - F.length=k by omega]
 simp only [List.map_append,List.map_cons,List.map_take,List.map_drop,List.append_assoc,List.nil_append]
theorem twice_mem {α:Type} {l:List α} {k:Nat} {h:k < l.length} {a:α} (ha:a ∈ twice l k h):a ∈ l:=by
 unfold twice at ha
 rcases List.mem_append.1 ha with ha | ha
 ·exact List.mem_of_mem_take ha
 ·rcases List.mem_cons.1 ha with rfl | ha
  ·exact List.getElem_mem h
  ·exact List.mem_of_mem_drop ha
theorem FormOk.twiceF {w:World} {es:List FE} {ps:List PE} {X:Nat->Ex} (h:FormOk w es ps X) (k:Nat) (hk:k < (es.map flE).length) :
  rdAll pfR (linesF (twice (es.map flE) k hk) (ps.map plE))=((0,0),(twice (es.map flE) k hk,(ps.map plE).map (·.1))) ∨ ((rdAll pfR (linesF (twice (es.map flE) k hk) (ps.map plE))).1.2=1/\∃ l ∈ linesF (es.map flE) (ps.map plE),160 < l.length):=by
 rcases rd_form_fl (pf:=pfR) (twice (es.map flE) k hk) (ps.map plE) (fun f hf => h.fl.1 f (twice_mem hf)) h.pl.1 (fun f hf hk => pf_or (h.fl.2 f (twice_mem hf) hk)) (fun p hp hk => pf_or (h.pl.2 p hp hk)) with ⟨_,_,e⟩ | e
 ·exact .inl e
 ·by_cases hl:∃ l ∈ linesF (es.map flE) (ps.map plE),160 < l.length
  ·exact .inr ⟨e,hl⟩
  ·refine .inl (rd_form _ _ (fun f hf => h.fl.1 f (twice_mem hf)) h.pl.1 (fun f hf hk => pf_fine (h.fl.2 f (twice_mem hf) hk) ?_) (fun p hp hk => pf_fine (h.pl.2 p hp hk) ?_))
   ·refine Nat.le_trans (fl_len hk) (Nat.le_of_not_lt fun hh => hl ⟨flL f,?_,hh⟩)
    unfold linesF
    exact List.mem_append.2 (.inl (List.mem_map.2 ⟨f,twice_mem hf,rfl⟩))
   ·refine Nat.le_trans (pl_len hk) (Nat.le_of_not_lt fun hh => hl ⟨plL p,?_,hh⟩)
    unfold linesF
    exact List.mem_append.2 (.inr (List.mem_map.2 ⟨p,hp,rfl⟩))
theorem FormOk.twiceP {w:World} {es:List FE} {ps:List PE} {X:Nat->Ex} (h:FormOk w es ps X) (k:Nat) (hk:k < (ps.map plE).length) :
  rdAll pfR (linesF (es.map flE) (twice (ps.map plE) k hk))=((0,0),(es.map flE,(twice (ps.map plE) k hk).map (·.1))) ∨ ((rdAll pfR (linesF (es.map flE) (twice (ps.map plE) k hk))).1.2=1/\∃ l ∈ linesF (es.map flE) (ps.map plE),160 < l.length):=by
 rcases rd_form_fl (pf:=pfR) (es.map flE) (twice (ps.map plE) k hk) h.fl.1 (fun f hf => h.pl.1 f (twice_mem hf)) (fun f hf hk => pf_or (h.fl.2 f hf hk)) (fun p hp hk => pf_or (h.pl.2 p (twice_mem hp) hk)) with ⟨_,_,e⟩ | e
 ·exact .inl e
 ·by_cases hl:∃ l ∈ linesF (es.map flE) (ps.map plE),160 < l.length
  ·exact .inr ⟨e,hl⟩
  ·refine .inl (rd_form _ _ h.fl.1 (fun f hf => h.pl.1 f (twice_mem hf)) (fun f hf hk => pf_fine (h.fl.2 f hf hk) ?_) (fun p hp hk => pf_fine (h.pl.2 p (twice_mem hp) hk) ?_))
   ·refine Nat.le_trans (fl_len hk) (Nat.le_of_not_lt fun hh => hl ⟨flL f,?_,hh⟩)
    unfold linesF
    exact List.mem_append.2 (.inl (List.mem_map.2 ⟨f,hf,rfl⟩))
   ·refine Nat.le_trans (pl_len hk) (Nat.le_of_not_lt fun hh => hl ⟨plL p,?_,hh⟩)
    unfold linesF
    exact List.mem_append.2 (.inr (List.mem_map.2 ⟨p,twice_mem hp,rfl⟩))
end TxT
namespace TxF
open Go.RowKit
open ValM LexM NumM ExM NmM ShowM PrM Kit ExL ExP ExN RawV Within RawL GenL FldP FldR FldC FrmM NmA PgM PgA ShT TxM TxR TxP TxT Prn TxQ TxW TxN PsR PsD PsE PrU
set_option linter.unusedVariables false
structure RVars (w:World):Prop where
 tv:TVars w
 lx:LexT.Vars w
 pv:Parse.Vars w
 mx:Mx w
theorem RVars.below {w w':World} (h:RVars w) (hb:Below w.heap.size w w'):RVars w':=⟨h.tv.below hb,h.lx.below hb,h.pv.below hb,h.mx.below hb⟩
theorem row_new (w:World) (cs:Array Value) (t:TypeId) (j:Nat):(w.alloc (.cells cs t)).cell? ⟨w.heap.size,j,none⟩=cs[j]?:=by
 unfold World.cell?
 rw [World.alloc_heap_new]
 rfl
theorem row_cells {W:World} {B:Nat} {cs:Array Value} {t:TypeId} (h:W.heap[B]?=some (.cells cs t (0,0))):(∀ o,W.cell? ⟨B,o,none⟩=cs[o]?)/\(∀ o,W.frozen? ⟨B,o,none⟩=false) :=
 ⟨fun o => by simp [World.cell?,h],fun o => by simp [World.frozen?,h]⟩
def ThreeOut (h:ByteArray) (w:World) (e:Ending) (w':World):Prop :=
 Below w.heap.size w w'/\((∃ A n c,e=.returned (.slice A n c)/\n < 3/\(Lib.splitN h.data.toList [32] 3).length < 3) ∨
  ∃ (a b c:ByteArray) (G cap:Nat),Lib.splitN h.data.toList [32] 3=[a.data.toList,b.data.toList,c.data.toList]/\e=.returned (.slice (some ⟨G,0,none⟩) 3 cap)/\w'.cell? ⟨G,0,none⟩=some (.string a)/\w'.cell? ⟨G,1,none⟩=some (.string b)/\w'.cell? ⟨G,2,none⟩=some (.string c)/\b.size<=h.size)
theorem three_any (h:ByteArray) (w:World) (hs:h.size<=2000000) (hm:Mx w):Calls Tryz.prog 62 #[.string h,.string ⟨#[32]⟩,.int .i64 3] w (ThreeOut h w):=by
 obtain ⟨m,hm⟩:=hm
 refine (Tryz.strings_SplitN h ⟨#[32]⟩ 3 m w (by omega) hm (by decide) (by decide) (by decide)).mono fun e w' hh => ?_
 obtain ⟨rfl,rfl⟩:=hh
 have hd:=Lib.splitB_data ⟨#[32]⟩ 0 (min 3 (h.size + 1) - 1) h
 have hk:Lib.splitN h.data.toList [32] 3=(Lib.splitB ⟨#[32]⟩ 0 (min 3 (h.size + 1) - 1) h).map (·.data.toList):=hd.symm
 have hlen:=Lib.splitB_length_le ⟨#[32]⟩ 0 (min 3 (h.size + 1) - 1) h
 refine ⟨b_new _ _,?_⟩
 rw [hk]
 generalize hl:Lib.splitB ⟨#[32]⟩ 0 (min 3 (h.size + 1) - 1) h=L at hlen hk ⊢
 by_cases h3:L.length < 3
 ·exact .inl ⟨_,_,_,rfl,h3,by rw [List.length_map]; exact h3⟩
 ·right
  have h4:L.length=3:=by omega
  obtain ⟨a,b,c,rfl⟩:∃ a b c,L=[a,b,c]:=by
   match L,h4 with
   | [a,b,c],_ => exact ⟨a,b,c,rfl⟩
  refine ⟨a,b,c,w.heap.size,_,rfl,rfl,?_,?_,?_,?_⟩
  ·rw [row_new]; simp [Lib.cellsOf]
  ·rw [row_new]; simp [Lib.cellsOf]
  ·rw [row_new]; simp [Lib.cellsOf]
  ·have e:=three_inv hk
   have:=congrArg List.length e
   simp only [List.length_append,List.length_cons,List.length_nil] at this
   show b.data.toList.length<=h.data.toList.length
   omega
def zeroF:FE:=⟨⟨#[]⟩,0,0,noX,none,0,0⟩
def fdV (f:FE):Value:=.agg #[.string f.nm,.int .i64 f.kind,.int .i64 f.ty,.int .i64 f.x.d.op,.int .i64 f.x.d.k,.int .i64 f.x.d.n,.string f.x.d.s,.string f.x.d.nm,.slice f.B f.m f.c]
def FieldOut (s:List UInt8) (w:World) (e:Ending) (w':World):Prop :=
 ∃ (f:FE) (er:Int),e=.returned (.tuple #[fdV f,.int .i64 er])/\IsP (fun b => w.heap.size<=b) w' f.x f.x.d f.B f.m/\(rdLine pfR false s).1=er/\(er=0->(rdLine pfR false s).2=some (.inl (flE f)))/\f.nm.size<=2000000/\f.x.nodes<=160/\Below w.heap.size w w'
theorem zero_isP (P:Nat->Prop) (w:World):IsP P w noX noX.d none 0:=isP_leaf _ _ _ _ (Nat.zero_le _) (Nat.zero_le _)
theorem line_words {l h:List UInt8} {src:Option (List UInt8)} (hp:¬ Lib.hasPrefix l pgW=true) (h1:((cutO l eqW).map (·.1)).getD l=h) (h2:(cutO l eqW).map (·.2)=src):lineV l =
  match Lib.splitN h [32] 3 with
  | [a,b,c] => if wordOf kdN a ≠ 0/\wordOf tyN c ≠ 0/\nmB b=true/\src.isSome=decide (wordOf kdN a ≠ 1) then .field b (wordOf kdN a) (wordOf tyN c) src else .bad false
  | _ => .bad false:=by
 rw [fieldW_eq hp]
 unfold fieldW
 rw [h1,h2]
 have:(cutO l eqW).isSome=src.isSome:=by rw [← h2]; cases cutO l eqW <;> rfl
 rw [this]
 rfl
theorem rd_bad_line {l:List UInt8} {b:Bool} (pg:Bool) (h:lineV l=.bad b):rdLine pfR pg l=(3,none):=by unfold rdLine; rw [h]
theorem rd_plain {l nm:List UInt8} {k t:Int} (h:lineV l=.field nm k t none):rdLine pfR false l=(0,some (.inl ⟨nm,k,t,noX⟩)):=by unfold rdLine; rw [h]; rfl
theorem rd_src_bad {l nm s:List UInt8} {k t er:Int} {x:Ex} (h:lineV l=.field nm k t (some s)) (hp:pfR s=(x,er)) (he:er ≠ 0) (pg:Bool):rdLine pfR pg l=(er,none):=by
 unfold rdLine; rw [h]; simp only; rw [hp]; exact if_neg he
theorem rd_src_ok {l nm s:List UInt8} {k t:Int} {x:Ex} (h:lineV l=.field nm k t (some s)) (hp:pfR s=(x,0)):rdLine pfR false l=(0,some (.inl ⟨nm,k,t,x⟩)):=by
 unfold rdLine; rw [h]; simp only; rw [hp]; rfl
def S9 (U:World) (B:Nat) (v0 v1 v2 v3 v4 v5 v6 v7 v8:Value):World:=((((((((U.setCell ⟨B,0,none⟩ v0).setCell ⟨B,1,none⟩ v1).setCell ⟨B,2,none⟩ v2).setCell ⟨B,3,none⟩ v3).setCell ⟨B,4,none⟩ v4).setCell ⟨B,5,none⟩ v5).setCell ⟨B,6,none⟩ v6).setCell ⟨B,7,none⟩ v7).setCell ⟨B,8,none⟩ v8
theorem s9_heap (U:World) (B b:Nat) (h:b ≠ B) (v0 v1 v2 v3 v4 v5 v6 v7 v8:Value):(S9 U B v0 v1 v2 v3 v4 v5 v6 v7 v8).heap[b]?=U.heap[b]?:=by
 unfold S9
 rw [Below.heap_setCell _ ⟨B,8,none⟩ _ b h,Below.heap_setCell _ ⟨B,7,none⟩ _ b h,Below.heap_setCell _ ⟨B,6,none⟩ _ b h,Below.heap_setCell _ ⟨B,5,none⟩ _ b h,Below.heap_setCell _ ⟨B,4,none⟩ _ b h,Below.heap_setCell _ ⟨B,3,none⟩ _ b h,Below.heap_setCell _ ⟨B,2,none⟩ _ b h,Below.heap_setCell _ ⟨B,1,none⟩ _ b h,Below.heap_setCell _ ⟨B,0,none⟩ _ b h]
def T6 (U:World) (B:Nat) (v0 v1 v2 v3 v4 v5:Value):World:=(((((U.setCell ⟨B,3,none⟩ v0).setCell ⟨B,4,none⟩ v1).setCell ⟨B,5,none⟩ v2).setCell ⟨B,6,none⟩ v3).setCell ⟨B,7,none⟩ v4).setCell ⟨B,8,none⟩ v5
theorem t6_heap (U:World) (B b:Nat) (h:b ≠ B) (v0 v1 v2 v3 v4 v5:Value):(T6 U B v0 v1 v2 v3 v4 v5).heap[b]?=U.heap[b]?:=by
 unfold T6
 rw [Below.heap_setCell _ ⟨B,8,none⟩ _ b h,Below.heap_setCell _ ⟨B,7,none⟩ _ b h,Below.heap_setCell _ ⟨B,6,none⟩ _ b h,Below.heap_setCell _ ⟨B,5,none⟩ _ b h,Below.heap_setCell _ ⟨B,4,none⟩ _ b h,Below.heap_setCell _ ⟨B,3,none⟩ _ b h]
theorem t6_box {U:World} {B:Nat} {c0 c1 c2 c3 c4 c5 c6 c7 c8:Value} {t:TypeId} (h:U.heap[B]?=some (.cells #[c0,c1,c2,c3,c4,c5,c6,c7,c8] t (0,0))) (v0 v1 v2 v3 v4 v5:Value):(T6 U B v0 v1 v2 v3 v4 v5).heap[B]?=some (.cells #[c0,c1,c2,v0,v1,v2,v3,v4,v5] t (0,0)):=by
 unfold T6
 have e0:(U.setCell ⟨B,3,none⟩ v0).heap[B]?=some (.cells #[c0,c1,c2,v0,c4,c5,c6,c7,c8] t (0,0)):=heap_setCell_same _ B 3 _ _ v0 h
 have e1:((U.setCell ⟨B,3,none⟩ v0).setCell ⟨B,4,none⟩ v1).heap[B]?=some (.cells #[c0,c1,c2,v0,v1,c5,c6,c7,c8] t (0,0)):=heap_setCell_same _ B 4 _ _ v1 e0
 have e2:(((U.setCell ⟨B,3,none⟩ v0).setCell ⟨B,4,none⟩ v1).setCell ⟨B,5,none⟩ v2).heap[B]?=some (.cells #[c0,c1,c2,v0,v1,v2,c6,c7,c8] t (0,0)):=heap_setCell_same _ B 5 _ _ v2 e1
 have e3:((((U.setCell ⟨B,3,none⟩ v0).setCell ⟨B,4,none⟩ v1).setCell ⟨B,5,none⟩ v2).setCell ⟨B,6,none⟩ v3).heap[B]?=some (.cells #[c0,c1,c2,v0,v1,v2,v3,c7,c8] t (0,0)):=heap_setCell_same _ B 6 _ _ v3 e2
 have e4:(((((U.setCell ⟨B,3,none⟩ v0).setCell ⟨B,4,none⟩ v1).setCell ⟨B,5,none⟩ v2).setCell ⟨B,6,none⟩ v3).setCell ⟨B,7,none⟩ v4).heap[B]?=some (.cells #[c0,c1,c2,v0,v1,v2,v3,v4,c8] t (0,0)):=heap_setCell_same _ B 7 _ _ v4 e3
 have e5:((((((U.setCell ⟨B,3,none⟩ v0).setCell ⟨B,4,none⟩ v1).setCell ⟨B,5,none⟩ v2).setCell ⟨B,6,none⟩ v3).setCell ⟨B,7,none⟩ v4).setCell ⟨B,8,none⟩ v5).heap[B]?=some (.cells #[c0,c1,c2,v0,v1,v2,v3,v4,v5] t (0,0)):=heap_setCell_same _ B 8 _ _ v5 e4
 exact e5
theorem t6_below {w U:World} {B:Nat} (h:Below w.heap.size w U) (hB:w.heap.size<=B) (v0 v1 v2 v3 v4 v5:Value):Below w.heap.size w (T6 U B v0 v1 v2 v3 v4 v5):=by
 unfold T6
 exact ((((((h.setCell (p:=⟨B,3,none⟩) hB _).setCell (p:=⟨B,4,none⟩) hB _).setCell (p:=⟨B,5,none⟩) hB _).setCell (p:=⟨B,6,none⟩) hB _).setCell (p:=⟨B,7,none⟩) hB _).setCell (p:=⟨B,8,none⟩) hB _)
theorem row_back {w w2:World} {R:Nat} {old cs:Array Value} {t:TypeId} (hb:Below w.heap.size w w2) (hR:w.heap.size<=R) (hk:w2.heap[R]?=some (.cells old t (0,0))) :
  (w2.setRow R cs).heap[R]?=some (.cells cs t (0,0))/\Below w.heap.size w (w2.setRow R cs)/\∀ b,b ≠ R->(w2.setRow R cs).heap[b]?=w2.heap[b]? :=
 ⟨setRow_heap w2 R old cs t (0,0) hk,below_setRow hb hR cs,fun b h => setRow_other w2 R b cs h⟩
theorem isP_row {P:Nat->Prop} {w2:World} {R:Nat} {cs:Array Value} {x:Ex} {d:Nd} {A:Option Addr} {m:Nat} (h:IsP P w2 x d A m) (hne:∀ b,P b->b ≠ R):IsP P (w2.setRow R cs) x d A m :=
 IsP.keep (fun b hb _ => setRow_other w2 R b cs (hne b hb)) (fun b hb _ => hb) _ _ _ _ h
set_option maxRecDepth 100000 in
set_option maxHeartbeats 16000000 in
theorem readField_any (s:ByteArray) (w:World) (hs:s.size<=2000000) (hp:¬ Lib.hasPrefix s.data.toList pgW=true) (hv:RVars w):Calls Tryz.prog 39 #[.string s] w (FieldOut s.data.toList w):=by
 obtain ⟨W1,hW1⟩:∃ V,w.alloc (.cells #[.string ⟨#[]⟩,.int .i64 0,.int .i64 0,.int .i64 0,.int .i64 0,.int .i64 0,.string ⟨#[]⟩,.string ⟨#[]⟩,.slice none 0 0] 47)=V:=⟨_,rfl⟩
 obtain ⟨R,hR⟩:∃ B,w.heap.size=B:=⟨_,rfl⟩
 have hb1:Below w.heap.size w W1:=by rw [← hW1]; exact b_new _ _
 have hk1:W1.heap[R]?=some (.cells #[.string ⟨#[]⟩,.int .i64 0,.int .i64 0,.int .i64 0,.int .i64 0,.int .i64 0,.string ⟨#[]⟩,.string ⟨#[]⟩,.slice none 0 0] 47 (0,0)):=by rw [← hW1,← hR]; exact World.alloc_heap_new w _
 have hbox:∀ V,Below W1.heap.size W1 V->V.heap[R]?=some (.cells #[.string ⟨#[]⟩,.int .i64 0,.int .i64 0,.int .i64 0,.int .i64 0,.int .i64 0,.string ⟨#[]⟩,.string ⟨#[]⟩,.slice none 0 0] 47 (0,0)):=fun V hV => (hV.block _ (Array.getElem?_eq_some_iff.1 hk1).1).trans hk1
 have hR1:R < W1.heap.size:=(Array.getElem?_eq_some_iff.1 hk1).1
 -- the cut
 obtain ⟨h,src,comp,so,hcut,hh1,hh2,hso,hhs,hss⟩:∃ (h src:ByteArray) (comp:Bool) (so:Option (List UInt8)),(∀ V,Below W1.heap.size W1 V->Calls Tryz.prog 59 #[.string s,.string ⟨#[32,61,32]⟩] V fun e w' => e=.returned (.tuple #[.string h,.string src,.bool comp])/\∃ n,w'=V.drewN n) ∧
   ((cutO s.data.toList eqW).map (·.1)).getD s.data.toList=h.data.toList/\(cutO s.data.toList eqW).map (·.2)=so/\(so=if comp=true then some src.data.toList else none)/\h.size<=s.size/\src.size<=s.size:=by
  rcases cut_cases s ⟨#[32,61,32]⟩ (by decide) with hc | ⟨a,q,hc,hlt,hal⟩
  ·have hc':cutO s.data.toList eqW=none:=hc
   exact ⟨s,⟨#[]⟩,false,none,fun V hV => cut_none hs ((hv.below hb1).mx.below hV) (by decide) hc,by rw [hc']; rfl,by rw [hc']; rfl,rfl,Nat.le_refl _,Nat.zero_le _⟩
  ·have hc':cutO s.data.toList eqW=some (a.data.toList,q.data.toList):=hc
   exact ⟨a,q,true,some q.data.toList,fun V hV => cut_some hs ((hv.below hb1).mx.below hV) (by decide) hc,by rw [hc']; rfl,by rw [hc']; rfl,rfl,hal,Nat.le_of_lt hlt⟩
 have hline:=line_words hp hh1 hh2
 have hthree:∀ V,Below W1.heap.size W1 V->Calls Tryz.prog 62 #[.string h,.string ⟨#[32]⟩,.int .i64 3] V (ThreeOut h V):=fun V hV => three_any h V (by omega) ((hv.below hb1).mx.below hV)
 have hv1:=hv.below hb1
 have HLine:=Lib.hid hline
 have HCut:=Lib.hid (hcut W1 (Below.refl _ _))
 have HThree:=Lib.hid hthree
 have HW1:=Lib.hid hW1
 have HR:=Lib.hid hR
 have HB1:=Lib.hid hb1
 have HBox:=Lib.hid hbox
 have HSo:=Lib.hid hso
 have HV1:=Lib.hid hv1
 have HSS:=Lib.hid (And.intro hhs hss)
 have HS:=Lib.hid hs
 have HR1:=Lib.hid hR1
 clear hline hcut hthree hW1 hR hb1 hbox hso hv1 hv hk1 hhs hss hs hR1 hh1 hh2 hp
 go_enter Tryz.func39,Tryz.ntmps39
 go_upto_region 1 with fail
 rw [HW1.out,HR.out]
 go_wp2_with fail
 refine HCut.out.mono ?_; rintro e w2 ⟨rfl,n2,rfl⟩
 go_wp2_with fail
 refine (HThree.out _ (b_drewN (Below.refl _ _) n2)).mono ?_
 rintro e w3 ⟨hb3,⟨A,n,c,rfl,hn3,hlen⟩ | ⟨a,b,c,G,cap,h3,rfl,g0,g1,g2,hbs⟩⟩
 ·have hb13:Below W1.heap.size W1 w3:=(b_drewN (Below.refl W1.heap.size W1) n2).trans hb3
  have hbad:lineV s.data.toList=.bad false:=by
   rw [HLine.out]
   match hl:Lib.splitN h.data.toList [32] 3,hlen with
   | [],_ => rfl
   | [a],_ => rfl
   | [a,b],_ => rfl
  have hk3:=HBox.out w3 hb13
  obtain ⟨j1,j2,j3⟩:=row_back (cs:=#[.string ⟨#[]⟩,.int .i64 0,.int .i64 0,.int .i64 0,.int .i64 0,.int .i64 0,.string ⟨#[]⟩,.string ⟨#[]⟩,.slice none 0 0]) (b_trans HB1.out hb13) (by rw [HR.out]; exact Nat.le_refl _) hk3
  have t1:(n:Int) < 3:=by omega
  have HBad:=Lib.hid hbad
  have HJ1:=Lib.hid j1
  have HJ2:=Lib.hid j2
  clear hbad j1 j2 j3 hb3 hb13 hlen hn3
  go_wp2_with (refine wpList_store_row rfl 47 _ _ rfl R #[.string ⟨#[]⟩,.int .i64 0,.int .i64 0,.int .i64 0,.int .i64 0,.int .i64 0,.string ⟨#[]⟩,.string ⟨#[]⟩,.slice none 0 0] rfl rfl 47 _ hk3 (by kernel_rfl) rfl (by simp [Value.oneCell']) ?_)
  obtain ⟨y0,y1⟩:=row_cells HJ1.out
  refine bodyPost_ret (v:=.tuple #[.agg #[.string ⟨#[]⟩,.int .i64 0,.int .i64 0,.int .i64 0,.int .i64 0,.int .i64 0,.string ⟨#[]⟩,.string ⟨#[]⟩,.slice none 0 0],.int .i64 3]) (by simp [results,Tryz.results39,go_sem,y0]) rfl ⟨zeroF,3,rfl,zero_isP _ _,?_,fun h => absurd h (by decide),by decide,by decide,HJ2.out⟩
  rw [rd_bad_line false HBad.out]
 ·have hb13:Below W1.heap.size W1 w3:=(b_drewN (Below.refl W1.heap.size W1) n2).trans hb3
  have hline:lineV s.data.toList=if wordOf kdN a.data.toList ≠ 0/\wordOf tyN c.data.toList ≠ 0/\nmB b.data.toList=true/\so.isSome=decide (wordOf kdN a.data.toList ≠ 1) then .field b.data.toList (wordOf kdN a.data.toList) (wordOf tyN c.data.toList) so else .bad false:=by rw [HLine.out,h3]
  have hkd:=fun V (hV:Below W1.heap.size W1 V) => kindOf_any a V (HV1.out.below hV).tv
  have hty:=fun V (hV:Below W1.heap.size W1 V) => typeOf_any c V (HV1.out.below hV).tv
  have hnm:=fun V => LexB.name_any b V (by have:=HSS.out.1; have:=HS.out; omega)
  have hkb:=word_bd kdN a.data.toList
  generalize wordOf kdN a.data.toList=K at hline hkd hkb
  generalize wordOf tyN c.data.toList=T at hline hty
  have hw3:∀ V,Below w3.heap.size w3 V->V.cell? ⟨G,0,none⟩=some (.string a)/\V.cell? ⟨G,1,none⟩=some (.string b)/\V.cell? ⟨G,2,none⟩=some (.string c):=fun V hV => ⟨(hV.cell (p:=⟨G,0,none⟩) (cell_lt' g0)).trans g0,(hV.cell (p:=⟨G,1,none⟩) (cell_lt' g1)).trans g1,(hV.cell (p:=⟨G,2,none⟩) (cell_lt' g2)).trans g2⟩
  have hset:∀ (U:World) (v0 v1 v2 v3 v4 v5 v6 v7 v8:Value),Below w3.heap.size w3 U->(S9 U w3.heap.size v0 v1 v2 v3 v4 v5 v6 v7 v8).cell? ⟨G,0,none⟩=some (.string a)/\(S9 U w3.heap.size v0 v1 v2 v3 v4 v5 v6 v7 v8).cell? ⟨G,1,none⟩=some (.string b)/\(S9 U w3.heap.size v0 v1 v2 v3 v4 v5 v6 v7 v8).cell? ⟨G,2,none⟩=some (.string c):=fun U v0 v1 v2 v3 v4 v5 v6 v7 v8 hU => by
   have hh:=s9_heap U w3.heap.size G (Nat.ne_of_lt (cell_lt' g0)) v0 v1 v2 v3 v4 v5 v6 v7 v8
   exact ⟨(World.cell?_of_block (a:=⟨G,0,none⟩) hh).trans (hw3 U hU).1,(World.cell?_of_block (a:=⟨G,1,none⟩) hh).trans (hw3 U hU).2.1,(World.cell?_of_block (a:=⟨G,2,none⟩) hh).trans (hw3 U hU).2.2⟩
  unfold S9 at hset
  have HSet:=Lib.hid hset
  have HB13:=Lib.hid hb13
  have HLn:=Lib.hid hline
  have HKd:=Lib.hid hkd
  have HTy:=Lib.hid hty
  have HNm:=Lib.hid hnm
  have HW3:=Lib.hid hw3
  have HBs:=Lib.hid hbs
  have HKb:=Lib.hid hkb
  clear hset hb13 hline hkd hty hnm hw3 hbs hb3 h3 hkb
  go_upto_region 5 with fail
  go_cut [8] (fun v8 wr => v8=.pointer (some ⟨w3.heap.size,0,none⟩)/\wr=(w3.alloc (.cells #[.string b,.int .i64 K,.int .i64 T,.int .i64 0,.int .i64 0,.int .i64 0,.string ⟨#[]⟩,.string ⟨#[]⟩,.slice none 0 0] 47)).drew)
  case first =>
   go_region_held3 (fun V => V.cell? ⟨G,0,none⟩=some (.string a)/\V.cell? ⟨G,1,none⟩=some (.string b)/\V.cell? ⟨G,2,none⟩=some (.string c)) (first | (with_reducible exact HW3.out _ (by ((repeat (first | (with_reducible refine b_drew ?_) | (with_reducible refine b_more ?_ _))); (with_reducible exact Below.refl _ _)))) | (with_reducible exact HSet.out _ _ _ _ _ _ _ _ _ _ (by ((repeat (first | (with_reducible refine b_drew ?_) | (with_reducible refine b_more ?_ _))); (with_reducible exact Below.refl _ _))))) (first | (go_at_call 63; (with_reducible refine (HKd.out _ (b_trans HB13.out ?_)).mono ?_); ((repeat (first | (with_reducible refine b_drew ?_) | (with_reducible refine b_more ?_ _))); (with_reducible exact Below.refl _ _)); rintro r wq ⟨rfl,rfl⟩) | (go_at_call 64; (with_reducible refine (HTy.out _ (b_trans HB13.out ?_)).mono ?_); ((repeat (first | (with_reducible refine b_drew ?_) | (with_reducible refine b_more ?_ _))); (with_reducible exact Below.refl _ _)); rintro r wq ⟨rfl,rfl⟩) | (fail))
   all_goals (go_wp2_with fail; go_meet)
   all_goals exact ⟨rfl,rfl⟩
  case rest =>
   obtain ⟨rfl,hwc⟩:=hcut
   have hbc:Below w3.heap.size w3 wc:=by rw [hwc]; exact b_drew (b_new _ _)
   have hkF:wc.heap[w3.heap.size]?=some (.cells #[.string b,.int .i64 K,.int .i64 T,.int .i64 0,.int .i64 0,.int .i64 0,.string ⟨#[]⟩,.string ⟨#[]⟩,.slice none 0 0] 47 (0,0)):=by rw [hwc]; exact World.alloc_heap_new w3 _
   obtain ⟨F,hF⟩:∃ F,w3.heap.size=F:=⟨_,rfl⟩
   have hFc:F < wc.heap.size:=by rw [← hF]; exact (Array.getElem?_eq_some_iff.1 hkF).1
   have hRF:R < F:=by have h1:=HR1.out; have h2:=HB13.out.size; omega
   have hbw:Below w.heap.size w wc:=b_trans HB1.out (b_trans HB13.out hbc)
   have hkc:=HBox.out wc (b_trans HB13.out hbc)
   rw [hF] at hkF ⊢
   obtain ⟨x0,z0⟩:=row_cells hkF
   have HBc:=Lib.hid hbw
   have HKF:=Lib.hid hkF
   have HKc:=Lib.hid hkc
   have HB1c:=Lib.hid (b_trans HB13.out hbc)
   have HF:=Lib.hid hF
   have HRF:=Lib.hid hRF
   clear hwc hbc hkF hF hRF hbw HSet HW3 HKd HTy
   generalize hE:LexB.nameE b.data.toList=E at HNm
   have HE:=Lib.hid hE
   clear hE
   by_cases hK:K=0
   ·have t1:(K == 0)=true:=beq_iff_eq.2 hK
    have HBad:=Lib.hid (show lineV s.data.toList=.bad false by rw [HLn.out,if_neg (fun q => q.1 hK)])
    obtain ⟨j1,j2,j3⟩:=row_back (cs:=#[.string ⟨#[]⟩,.int .i64 0,.int .i64 0,.int .i64 0,.int .i64 0,.int .i64 0,.string ⟨#[]⟩,.string ⟨#[]⟩,.slice none 0 0]) HBc.out (by rw [HR.out]; exact Nat.le_refl _) hkc
    have HJ1:=Lib.hid j1
    have HJ2:=Lib.hid j2
    clear j1 j2 j3
    go_wp2_with (first | (refine wpList_store_row rfl 47 _ _ rfl R #[.string ⟨#[]⟩,.int .i64 0,.int .i64 0,.int .i64 0,.int .i64 0,.int .i64 0,.string ⟨#[]⟩,.string ⟨#[]⟩,.slice none 0 0] rfl rfl 47 _ hkc (by kernel_rfl) rfl (by simp [Value.oneCell']) ?_) | (go_at_call 49; refine (HNm.out _).mono ?_; rintro e wq ⟨rfl,rfl⟩))
    obtain ⟨y0,y1⟩:=row_cells HJ1.out
    refine bodyPost_ret (v:=.tuple #[.agg #[.string ⟨#[]⟩,.int .i64 0,.int .i64 0,.int .i64 0,.int .i64 0,.int .i64 0,.string ⟨#[]⟩,.string ⟨#[]⟩,.slice none 0 0],.int .i64 3]) (by simp [results,Tryz.results39,go_sem,y0]) rfl ⟨zeroF,3,rfl,zero_isP _ _,?_,fun h => absurd h (by decide),by decide,by decide,HJ2.out⟩
    rw [rd_bad_line false HBad.out]
   ·have t1:(K == 0)=false:=beq_eq_false_iff_ne.2 hK
    by_cases hT:T=0
    ·have t2:(T == 0)=true:=beq_iff_eq.2 hT
     have HBad:=Lib.hid (show lineV s.data.toList=.bad false by rw [HLn.out,if_neg (fun q => q.2.1 hT)])
     obtain ⟨j1,j2,j3⟩:=row_back (cs:=#[.string ⟨#[]⟩,.int .i64 0,.int .i64 0,.int .i64 0,.int .i64 0,.int .i64 0,.string ⟨#[]⟩,.string ⟨#[]⟩,.slice none 0 0]) HBc.out (by rw [HR.out]; exact Nat.le_refl _) hkc
     have HJ1:=Lib.hid j1
     have HJ2:=Lib.hid j2
     clear j1 j2 j3
     go_wp2_with (first | (refine wpList_store_row rfl 47 _ _ rfl R #[.string ⟨#[]⟩,.int .i64 0,.int .i64 0,.int .i64 0,.int .i64 0,.int .i64 0,.string ⟨#[]⟩,.string ⟨#[]⟩,.slice none 0 0] rfl rfl 47 _ hkc (by kernel_rfl) rfl (by simp [Value.oneCell']) ?_) | (go_at_call 49; refine (HNm.out _).mono ?_; rintro e wq ⟨rfl,rfl⟩))
     obtain ⟨y0,y1⟩:=row_cells HJ1.out
     refine bodyPost_ret (v:=.tuple #[.agg #[.string ⟨#[]⟩,.int .i64 0,.int .i64 0,.int .i64 0,.int .i64 0,.int .i64 0,.string ⟨#[]⟩,.string ⟨#[]⟩,.slice none 0 0],.int .i64 3]) (by simp [results,Tryz.results39,go_sem,y0]) rfl ⟨zeroF,3,rfl,zero_isP _ _,?_,fun h => absurd h (by decide),by decide,by decide,HJ2.out⟩
     rw [rd_bad_line false HBad.out]
    ·have t2:(T == 0)=false:=beq_eq_false_iff_ne.2 hT
     by_cases hEz:E=0
     ·have t3:(E != 0)=false:=by rw [hEz]; rfl
      have hnb:nmB b.data.toList=true:=nm_zero.2 (HE.out.trans hEz)
      by_cases hcm:comp=decide (K ≠ 1)
      ·have hsome:so.isSome=decide (K ≠ 1):=by rw [HSo.out,← hcm]; cases comp <;> rfl
       have HLok:=Lib.hid (show lineV s.data.toList=.field b.data.toList K T so by rw [HLn.out,if_pos ⟨hK,hT,hnb,hsome⟩])
       have hbz:b.size<=2000000:=by have h1:=HBs.out; have h2:=HSS.out.1; have h3:=HS.out; omega
       have HBz:=Lib.hid hbz
       clear hbz
       cases comp with
       | false =>
        have hK1:K=1:=by simpa using hcm
        have t4:(K != 1)=false:=by rw [hK1]; rfl
        have hso:so=none:=by rw [HSo.out]; rfl
        have HLn2:=Lib.hid (show lineV s.data.toList=.field b.data.toList K T none by rw [HLok.out,hso])
        obtain ⟨j1,j2,j3⟩:=row_back (cs:=#[.string b,.int .i64 K,.int .i64 T,.int .i64 0,.int .i64 0,.int .i64 0,.string ⟨#[]⟩,.string ⟨#[]⟩,.slice none 0 0]) HBc.out (by rw [HR.out]; exact Nat.le_refl _) hkc
        have HJ1:=Lib.hid j1
        have HJ2:=Lib.hid j2
        clear j1 j2 j3 hso hK1 hcm hsome hnb hK hT hEz
        go_wp2_with (first | (refine wpList_store_row rfl 47 _ _ rfl R #[.string b,.int .i64 K,.int .i64 T,.int .i64 0,.int .i64 0,.int .i64 0,.string ⟨#[]⟩,.string ⟨#[]⟩,.slice none 0 0] rfl rfl 47 _ hkc (by kernel_rfl) rfl (by simp [Value.oneCell']) ?_) | (go_at_call 49; refine (HNm.out _).mono ?_; rintro e wq ⟨rfl,rfl⟩))
        obtain ⟨y0,y1⟩:=row_cells HJ1.out
        refine bodyPost_ret (v:=.tuple #[.agg #[.string b,.int .i64 K,.int .i64 T,.int .i64 0,.int .i64 0,.int .i64 0,.string ⟨#[]⟩,.string ⟨#[]⟩,.slice none 0 0],.int .i64 0]) (by simp [results,Tryz.results39,go_sem,y0]) rfl ⟨⟨b,K,T,noX,none,0,0⟩,0,rfl,zero_isP _ _,?_,?_,HBz.out,(show noX.nodes<=160 by decide),HJ2.out⟩
        ·rw [rd_plain HLn2.out]
        ·intro _; rw [rd_plain HLn2.out]; rfl
       | true =>
        have hK1:K ≠ 1:=by simpa using hcm
        have t4:(K != 1)=true:=bne_iff_ne.2 hK1
        have hso:so=some src.data.toList:=by rw [HSo.out]; rfl
        have HLn2:=Lib.hid (show lineV s.data.toList=.field b.data.toList K T (some src.data.toList) by rw [HLok.out,hso])
        have hpa:=PsE.Parse_any src wc (by have h1:=HSS.out.2; have h3:=HS.out; omega) (HV1.out.below HB1c.out).lx (HV1.out.below HB1c.out).pv (HV1.out.below HB1c.out).tv.pr.tab
        have HPa:=Lib.hid hpa
        clear hpa hso hK1 hcm
        go_wp2_with (go_at_call 49; refine (HNm.out _).mono ?_; rintro e wq ⟨rfl,rfl⟩)
        refine HPa.out.mono ?_; rintro e w4 ⟨x,d,B,m,cp,a1,er,rfl,hix,hpr,hb4⟩
        have hd:d=x.d:=ExS.is_d hix.is
        have hpf:=pf_of hpr
        have hxn:=pr_nodes hpr
        obtain ⟨W5,hW5⟩:∃ V,w4.alloc (.cells #[.int .i64 d.op,.int .i64 d.k,.int .i64 d.n,.string d.s,.string d.nm,.slice B m cp] 45)=V:=⟨_,rfl⟩
        obtain ⟨XB,hXB⟩:∃ N,w4.heap.size=N:=⟨_,rfl⟩
        have hb5:Below w4.heap.size w4 W5:=by rw [← hW5]; exact b_new _ _
        have hk5:W5.heap[XB]?=some (.cells #[.int .i64 d.op,.int .i64 d.k,.int .i64 d.n,.string d.s,.string d.nm,.slice B m cp] 45 (0,0)):=by rw [← hW5,← hXB]; exact World.alloc_heap_new w4 _
        have hbc5:Below wc.heap.size wc W5:=b_trans hb4 hb5
        have hkF5:=(hbc5.block F hFc).trans HKF.out
        have hkR5:=(hbc5.block R (by have:=HRF.out; omega)).trans HKc.out
        have hix5:=hix.below hb5
        obtain ⟨u0,v0⟩:=row_cells hk5
        have hbw5:=b_trans HBc.out hbc5
        obtain ⟨xF,zF⟩:=row_cells hkF5
        have HXB:=Lib.hid hXB
        have HW5:=Lib.hid hW5
        have HIx:=Lib.hid hix5
        have HPf:=Lib.hid hpf
        have HXn:=Lib.hid hxn
        have HD:=Lib.hid hd
        have HBw5:=Lib.hid hbw5
        have HKF5:=Lib.hid hkF5
        have HKR5:=Lib.hid hkR5
        have HFle:=Lib.hid (show w.heap.size<=wc.heap.size from HBc.out.size)
        have hXF:XB ≠ F:=by have h1:=hb4.size; omega
        clear hXB hW5 hix hix5 hpf hxn hd hbw5 hkF5 hb4 hb5 hk5 hpr hbc5 x0 z0
        by_cases her:er=0
        ·subst her
         obtain ⟨W6,hW6⟩:∃ V,T6 W5 F (.int .i64 d.op) (.int .i64 d.k) (.int .i64 d.n) (.string d.s) (.string d.nm) (.slice B m cp)=V:=⟨_,rfl⟩
         have hkF6:=t6_box HKF5.out (.int .i64 d.op) (.int .i64 d.k) (.int .i64 d.n) (.string d.s) (.string d.nm) (.slice B m cp)
         have hh6:=fun b (hb:b ≠ F) => t6_heap W5 F b hb (.int .i64 d.op) (.int .i64 d.k) (.int .i64 d.n) (.string d.s) (.string d.nm) (.slice B m cp)
         have hb6:=t6_below (B:=F) HBw5.out (by have h1:=HRF.out; have h2:=HR.out; omega) (.int .i64 d.op) (.int .i64 d.k) (.int .i64 d.n) (.string d.s) (.string d.nm) (.slice B m cp)
         rw [hW6] at hkF6 hh6 hb6
         have hkR6:=(hh6 R (by have:=HRF.out; omega)).trans HKR5.out
         have hix6:IsP (fun b => w.heap.size<=b/\b ≠ R) W6 x d B m:=IsP.keep (fun b hb _ => hh6 b (by have h1:wc.heap.size<=b:=hb; omega)) (fun b hb _ => by have h1:wc.heap.size<=b:=hb; have h2:=HFle.out; have h3:=HRF.out; exact ⟨by omega,by omega⟩) _ _ _ _ HIx.out
         obtain ⟨j1,j2,j3⟩:=row_back (cs:=#[.string b,.int .i64 K,.int .i64 T,.int .i64 d.op,.int .i64 d.k,.int .i64 d.n,.string d.s,.string d.nm,.slice B m cp]) hb6 (by rw [HR.out]; exact Nat.le_refl _) hkR6
         have hix7:=isP_row (R:=R) (cs:=#[.string b,.int .i64 K,.int .i64 T,.int .i64 d.op,.int .i64 d.k,.int .i64 d.n,.string d.s,.string d.nm,.slice B m cp]) hix6 (fun b hb => hb.2)
         have HJ1:=Lib.hid j1
         have HJ2:=Lib.hid j2
         have HIx7:=Lib.hid hix7
         have HW6:=Lib.hid hW6
         have HKF6:=Lib.hid hkF6
         have HKR6:=Lib.hid hkR6
         clear hW6 hkF6 hh6 hb6 hkR6 hix6 j1 j2 j3 hix7
         go_upto_region 11 with fail
         rw [HW5.out,HXB.out]
         go_upto_region 14 with fail
         unfold T6 at HW6
         rw [HW6.out]
         obtain ⟨x6,z6⟩:=row_cells HKF6.out
         have hkR6:=HKR6.out
         clear u0 v0 xF zF
         go_wp2_with (refine wpList_store_row rfl 47 _ _ rfl R #[.string b,.int .i64 K,.int .i64 T,.int .i64 d.op,.int .i64 d.k,.int .i64 d.n,.string d.s,.string d.nm,.slice B m cp] rfl rfl 47 _ hkR6 (by kernel_rfl) rfl (by simp [Value.oneCell']) ?_)
         obtain ⟨y0,y1⟩:=row_cells HJ1.out
         refine bodyPost_ret (v:=.tuple #[.agg #[.string b,.int .i64 K,.int .i64 T,.int .i64 d.op,.int .i64 d.k,.int .i64 d.n,.string d.s,.string d.nm,.slice B m cp],.int .i64 0]) (by simp [results,Tryz.results39,go_sem,y0]) rfl ⟨⟨b,K,T,x,B,m,cp⟩,0,?_,?_,?_,?_,HBz.out,HXn.out,HJ2.out⟩
         ·rw [HD.out]; rfl
         ·rw [← HD.out]; exact IsP.keep (fun _ _ _ => rfl) (fun b hb _ => hb.1) _ _ _ _ HIx7.out
         ·rw [rd_src_ok HLn2.out HPf.out]
         ·intro _; rw [rd_src_ok HLn2.out HPf.out]; rfl
        ·have t5:(er != 0)=true:=bne_iff_ne.2 her
         obtain ⟨j1,j2,j3⟩:=row_back (cs:=#[.string ⟨#[]⟩,.int .i64 0,.int .i64 0,.int .i64 0,.int .i64 0,.int .i64 0,.string ⟨#[]⟩,.string ⟨#[]⟩,.slice none 0 0]) HBw5.out (by rw [HR.out]; exact Nat.le_refl _) HKR5.out
         have HJ1:=Lib.hid j1
         have HJ2:=Lib.hid j2
         have HEr:=Lib.hid her
         clear j1 j2 j3 her
         go_upto_region 11 with fail
         rw [HW5.out,HXB.out]
         go_wp2_with (refine wpList_store_row rfl 47 _ _ rfl R #[.string ⟨#[]⟩,.int .i64 0,.int .i64 0,.int .i64 0,.int .i64 0,.int .i64 0,.string ⟨#[]⟩,.string ⟨#[]⟩,.slice none 0 0] rfl rfl 47 _ hkR5 (by kernel_rfl) rfl (by simp [Value.oneCell']) ?_)
         obtain ⟨y0,y1⟩:=row_cells HJ1.out
         refine bodyPost_ret (v:=.tuple #[.agg #[.string ⟨#[]⟩,.int .i64 0,.int .i64 0,.int .i64 0,.int .i64 0,.int .i64 0,.string ⟨#[]⟩,.string ⟨#[]⟩,.slice none 0 0],.int .i64 er]) (by simp [results,Tryz.results39,go_sem,y0]) rfl ⟨zeroF,er,rfl,zero_isP _ _,?_,fun h => absurd h HEr.out,by decide,by decide,HJ2.out⟩
         rw [rd_src_bad HLn2.out HPf.out HEr.out]
      ·have HNe:=Lib.hid (show ¬ so.isSome=decide (K ≠ 1) from fun e => hcm (by rw [← e,HSo.out]; cases comp <;> rfl))
       by_cases hK1:K=1
       ·have t4:(K != 1)=false:=by rw [hK1]; rfl
        cases comp with
        | false => exact absurd (by rw [hK1]; rfl) hcm
        | true =>
         have HBad:=Lib.hid (show lineV s.data.toList=.bad false by rw [HLn.out,if_neg (fun q => HNe.out q.2.2.2)])
         obtain ⟨j1,j2,j3⟩:=row_back (cs:=#[.string ⟨#[]⟩,.int .i64 0,.int .i64 0,.int .i64 0,.int .i64 0,.int .i64 0,.string ⟨#[]⟩,.string ⟨#[]⟩,.slice none 0 0]) HBc.out (by rw [HR.out]; exact Nat.le_refl _) hkc
         have HJ1:=Lib.hid j1
         have HJ2:=Lib.hid j2
         clear j1 j2 j3
         go_wp2_with (first | (refine wpList_store_row rfl 47 _ _ rfl R #[.string ⟨#[]⟩,.int .i64 0,.int .i64 0,.int .i64 0,.int .i64 0,.int .i64 0,.string ⟨#[]⟩,.string ⟨#[]⟩,.slice none 0 0] rfl rfl 47 _ hkc (by kernel_rfl) rfl (by simp [Value.oneCell']) ?_) | (go_at_call 49; refine (HNm.out _).mono ?_; rintro e wq ⟨rfl,rfl⟩))
         obtain ⟨y0,y1⟩:=row_cells HJ1.out
         refine bodyPost_ret (v:=.tuple #[.agg #[.string ⟨#[]⟩,.int .i64 0,.int .i64 0,.int .i64 0,.int .i64 0,.int .i64 0,.string ⟨#[]⟩,.string ⟨#[]⟩,.slice none 0 0],.int .i64 3]) (by simp [results,Tryz.results39,go_sem,y0]) rfl ⟨zeroF,3,rfl,zero_isP _ _,?_,fun h => absurd h (by decide),by decide,by decide,HJ2.out⟩
         rw [rd_bad_line false HBad.out]
       ·have t4:(K != 1)=true:=bne_iff_ne.2 hK1
        cases comp with
        | true => exact absurd (by rw [decide_eq_true hK1]) hcm
        | false =>
         have HBad:=Lib.hid (show lineV s.data.toList=.bad false by rw [HLn.out,if_neg (fun q => HNe.out q.2.2.2)])
         obtain ⟨j1,j2,j3⟩:=row_back (cs:=#[.string ⟨#[]⟩,.int .i64 0,.int .i64 0,.int .i64 0,.int .i64 0,.int .i64 0,.string ⟨#[]⟩,.string ⟨#[]⟩,.slice none 0 0]) HBc.out (by rw [HR.out]; exact Nat.le_refl _) hkc
         have HJ1:=Lib.hid j1
         have HJ2:=Lib.hid j2
         clear j1 j2 j3
         go_wp2_with (first | (refine wpList_store_row rfl 47 _ _ rfl R #[.string ⟨#[]⟩,.int .i64 0,.int .i64 0,.int .i64 0,.int .i64 0,.int .i64 0,.string ⟨#[]⟩,.string ⟨#[]⟩,.slice none 0 0] rfl rfl 47 _ hkc (by kernel_rfl) rfl (by simp [Value.oneCell']) ?_) | (go_at_call 49; refine (HNm.out _).mono ?_; rintro e wq ⟨rfl,rfl⟩))
         obtain ⟨y0,y1⟩:=row_cells HJ1.out
         refine bodyPost_ret (v:=.tuple #[.agg #[.string ⟨#[]⟩,.int .i64 0,.int .i64 0,.int .i64 0,.int .i64 0,.int .i64 0,.string ⟨#[]⟩,.string ⟨#[]⟩,.slice none 0 0],.int .i64 3]) (by simp [results,Tryz.results39,go_sem,y0]) rfl ⟨zeroF,3,rfl,zero_isP _ _,?_,fun h => absurd h (by decide),by decide,by decide,HJ2.out⟩
         rw [rd_bad_line false HBad.out]
     ·have t3:(E != 0)=true:=bne_iff_ne.2 hEz
      have HBad:=Lib.hid (show lineV s.data.toList=.bad false by rw [HLn.out,if_neg (fun q => hEz (HE.out ▸ nm_zero.1 q.2.2.1))])
      obtain ⟨j1,j2,j3⟩:=row_back (cs:=#[.string ⟨#[]⟩,.int .i64 0,.int .i64 0,.int .i64 0,.int .i64 0,.int .i64 0,.string ⟨#[]⟩,.string ⟨#[]⟩,.slice none 0 0]) HBc.out (by rw [HR.out]; exact Nat.le_refl _) hkc
      have HJ1:=Lib.hid j1
      have HJ2:=Lib.hid j2
      clear j1 j2 j3
      go_wp2_with (first | (refine wpList_store_row rfl 47 _ _ rfl R #[.string ⟨#[]⟩,.int .i64 0,.int .i64 0,.int .i64 0,.int .i64 0,.int .i64 0,.string ⟨#[]⟩,.string ⟨#[]⟩,.slice none 0 0] rfl rfl 47 _ hkc (by kernel_rfl) rfl (by simp [Value.oneCell']) ?_) | (go_at_call 49; refine (HNm.out _).mono ?_; rintro e wq ⟨rfl,rfl⟩))
      obtain ⟨y0,y1⟩:=row_cells HJ1.out
      refine bodyPost_ret (v:=.tuple #[.agg #[.string ⟨#[]⟩,.int .i64 0,.int .i64 0,.int .i64 0,.int .i64 0,.int .i64 0,.string ⟨#[]⟩,.string ⟨#[]⟩,.slice none 0 0],.int .i64 3]) (by simp [results,Tryz.results39,go_sem,y0]) rfl ⟨zeroF,3,rfl,zero_isP _ _,?_,fun h => absurd h (by decide),by decide,by decide,HJ2.out⟩
      rw [rd_bad_line false HBad.out]
end TxF
end Go.Proofs.YtjhhmdmmllblhaaGreatDoor
