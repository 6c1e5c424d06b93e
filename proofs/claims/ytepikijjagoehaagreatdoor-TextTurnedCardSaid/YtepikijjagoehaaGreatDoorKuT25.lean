/- TxTurn: what these laws name of them. -/
import Derived.Test.YtepikijjagoehaaGreatDoorKuT24
namespace Go.Proofs.YtepikijjagoehaaGreatDoor
set_option linter.unusedVariables false
namespace KpS
end KpS
namespace TxT
open Go.RowKit
open ExM ExL TxR TxM FrmM
theorem FormOk.belowF {w V:World} {es:List FE} {ps:List PE} {X:Nat->Ex} (h:FormOk w es ps X) (hb:Below w.heap.size w V):FormOk V es ps X:=⟨fun i hi => (h.fi i hi).below hb,fun i hi => (h.pi i hi).below hb,h.src,h.fields,h.pages⟩
end TxT
namespace TxV
open Go.RowKit
open ValM LexM NumM ExM NmM ShowM PrM Ty Kit ExL ExP ExN ExC RawV Within RawL RawN GenL Gen GenT GenV FrmM Frm FldP FldR FldC FrmT FrmO TyM PgM PgA PgF RkM RkA RkD RkO RkS RkK CycO RkY ShT ShE TxM TxR TxP TxT TxQ TxN TxF TxG TxD TxU TxK TxI KpS PsE PrU
set_option linter.unusedVariables false
def ErrOut (ls:List (List UInt8)) (er0:Int) (at':Int->Prop) (w:World) (e:Ending) (w':World):Prop :=
 Below w.heap.size w w'/\∃ kl er:Int,e=.returned (.tuple #[zeroFm,.int .i64 kl,.int .i64 er])/\er ≠ 0/\((er=er0/\at' kl) ∨ ∃ l ∈ ls,160 < l.length)
theorem pls_map (l:List PE):pls l=(l.map plE).map (·.1):=by unfold pls; rw [List.map_map]; rfl
theorem twice_map {α β:Type} (f:α->β) (l:List α) (k:Nat) (h:k < l.length):(twice l k h).map f=twice (l.map f) k (by rw [List.length_map]; exact h):=by
 unfold twice
 rw [List.map_append,List.map_cons,List.map_take,List.map_drop,List.getElem_map]
theorem twice_read {w w':World} {es:List FE} {ps:List PE} {e:Ending} {l:List UInt8} (hok:FormOk w es ps (xOf es)) (hrk:rankE (es.map FE.fd) (xOf es)=0) (h10:es.length<=10) (h4:ps.length<=4) (k:Nat) (hk:k < (linesF (es.map flE) (ps.map plE)).length)
  (hl:Lib.split l [10]=(linesF (es.map flE) (ps.map plE)).take k ++ ((linesF (es.map flE) (ps.map plE))[k] :: (linesF (es.map flE) (ps.map plE)).drop k)) (h:ReadOut l w e w') :
  ErrOut (linesF (es.map flE) (ps.map plE)) 6 (fun _ => True) w e w':=by
 obtain ⟨hb,h⟩:=h
 refine ⟨hb,?_⟩
 have hn:(linesF (es.map flE) (ps.map plE)).length=es.length + ps.length:=by unfold linesF; simp
 have hlen:(Lib.split l [10]).length<=20:=by rw [hl]; simp; omega
 by_cases hf:k < es.length
 ·have hkF:k < (es.map flE).length:=by rw [List.length_map]; exact hf
  rw [lines_twiceF (es.map flE) (ps.map plE) k hkF] at hl
  rw [hl] at h hlen
  rcases hok.twiceF k hkF with hr | ⟨hr,hlong⟩
  ·rcases h with ⟨h1,_⟩ | ⟨_,h2,_⟩ | ⟨_,_,es',ps',FA,fc,PA,pc,e1,e2,hin,hfi,rfl⟩
   ·omega
   ·rw [hr] at h2; exact absurd rfl h2
   ·rw [hr] at e1
    have hc:=check_twice e1 hok.fi hfi hok.src (srcs_xE es') (by omega) hok.fields
    have hfe:formE (es'.map FE.fd) (xE es') ps'=6:=by
     have hr6:rankE (es'.map FE.fd) (xE es')=6:=by unfold rankE; rw [hc,if_neg (by decide)]
     unfold formE
     rw [hr6,if_neg (by decide)]
    rw [hfe,if_neg (by decide)]
    exact ⟨_,_,rfl,by decide,.inl ⟨rfl,trivial⟩⟩
  ·rcases h with ⟨h1,_⟩ | ⟨_,h2,rfl⟩ | ⟨_,h2,_⟩
   ·omega
   ·exact ⟨_,_,rfl,h2,.inr hlong⟩
   ·rw [hr] at h2; exact absurd h2 (by decide)
 ·obtain ⟨j,rfl⟩:∃ j,k=es.length + j:=⟨k - es.length,by omega⟩
  have hkP:j < (ps.map plE).length:=by rw [List.length_map]; omega
  have hlt:=lines_twiceP (es.map flE) (ps.map plE) j hkP
  simp only [List.length_map] at hlt
  rw [hlt] at hl
  rw [hl] at h hlen
  rcases hok.twiceP j hkP with hr | ⟨hr,hlong⟩
  ·rcases h with ⟨h1,_⟩ | ⟨_,h2,_⟩ | ⟨_,_,es',ps',FA,fc,PA,pc,e1,e2,hin,hfi,rfl⟩
   ·omega
   ·rw [hr] at h2; exact absurd rfl h2
   ·rw [hr] at e1 e2
    have e1:es'.map flE=es.map flE:=e1
    have hjp:j < ps.length:=by omega
    have e2':pls (twice ps j hjp)=pls ps':=by
     rw [e2,pls_map,twice_map]
    have hpp:PIs' w' ps':=fun i hi => (hin.ok _ (List.getElem_mem hi)).skip
    have hpt:PIs' w (twice ps j hjp):=fun i hi => by
     obtain ⟨m,hm,e⟩:=List.getElem_of_mem (twice_mem (List.getElem_mem hi))
     rw [← e]
     exact hok.pi m hm
    have hp:=pls_of (w:=w) (w':=w') (ps:=twice ps j hjp) (ps':=ps') e2' hpt hpp
    rw [twice_map] at hp
    have hc:=checkP_twice e1.symm hp.symm (by omega) hok.pages
    have hr0:rankE (es'.map FE.fd) (xE es')=0:=by rw [← rank_same e1.symm hok.fi hfi hok.src (srcs_xE es')]; exact hrk
    have hfe:formE (es'.map FE.fd) (xE es') ps'=6:=by
     unfold formE
     rw [if_pos hr0]
     exact hc
    rw [hfe,if_neg (by decide)]
    exact ⟨_,_,rfl,by decide,.inl ⟨rfl,trivial⟩⟩
  ·rcases h with ⟨h1,_⟩ | ⟨_,h2,rfl⟩ | ⟨_,h2,_⟩
   ·omega
   ·exact ⟨_,_,rfl,h2,.inr hlong⟩
   ·rw [hr] at h2; exact absurd h2 (by decide)
theorem what_read {w w':World} {es:List FE} {ps:List PE} {e:Ending} {l:List UInt8} (hok:FormOk w es ps (xOf es)) (h10:es.length<=10) (h4:ps.length<=4) (k:Nat) (hk:k < (linesF (es.map flE) (ps.map plE)).length)
  (hl:Lib.split l [10]=(linesF (es.map flE) (ps.map plE)).take k ++ ([119,104,97,116] :: (linesF (es.map flE) (ps.map plE)).drop k)) (h:ReadOut l w e w') :
  ErrOut (linesF (es.map flE) (ps.map plE)) 3 (fun kl => kl=(k:Int) + 1) w e w':=by
 obtain ⟨hb,h⟩:=h
 refine ⟨hb,?_⟩
 have hn:(linesF (es.map flE) (ps.map plE)).length=es.length + ps.length:=by unfold linesF; simp
 have hlen:(Lib.split l [10]).length<=20:=by rw [hl]; simp; omega
 rw [hl] at h hlen
 have hne:(rdAll pfR ((linesF (es.map flE) (ps.map plE)).take k ++ ([119,104,97,116] :: (linesF (es.map flE) (ps.map plE)).drop k))).1.2 ≠ 0 :=
  rd_any_bad _ 0 ([],[]) [119,104,97,116] (by simp) fun pg => by rw [what_bad]; decide
 rcases h with ⟨h1,_⟩ | ⟨_,h2,rfl⟩ | ⟨_,h2,_⟩
 ·omega
 ·refine ⟨_,_,rfl,h2,?_⟩
  by_cases hlong:∃ l ∈ linesF (es.map flE) (ps.map plE),160 < l.length
  ·exact .inr hlong
  ·left
   have hF:∀ f ∈ es.map flE,1 < f.k->pfR (Ex.txt f.x)=(f.x,0):=fun f hf hk => pf_fine (hok.fl.2 f hf hk) (by
    refine Nat.le_trans (fl_len hk) (Nat.le_of_not_lt fun hh => hlong ⟨flL f,?_,hh⟩)
    unfold linesF
    exact List.mem_append.2 (.inl (List.mem_map.2 ⟨f,hf,rfl⟩)))
   have hP:∀ p ∈ ps.map plE,p.2=true->pfR (Ex.txt p.1.x)=(p.1.x,0):=fun p hp hk => pf_fine (hok.pl.2 p hp hk) (by
    refine Nat.le_trans (pl_len hk) (Nat.le_of_not_lt fun hh => hlong ⟨plL p,?_,hh⟩)
    unfold linesF
    exact List.mem_append.2 (.inr (List.mem_map.2 ⟨p,hp,rfl⟩)))
   have:=rd_what (pf:=pfR) (es.map flE) (ps.map plE) hok.fl.1 hok.pl.1 hF hP k (by rw [List.length_map,List.length_map]; omega) (bad:=[119,104,97,116]) (e:=3) (by decide) (fun pg => what_bad pfR pg) ((linesF (es.map flE) (ps.map plE)).drop k)
   rw [this]
   exact ⟨rfl,by simp⟩
 ·exact absurd h2 hne
theorem form_ne {w:World} {es:List FE} {ps:List PE} {X:Nat->Ex} (h:FormOk w es ps X):formL es ps ≠ []:=fun e => by
 have hs:=h.split
 rw [e] at hs
 have h0:Lib.split [] [10]=[[]]:=by rfl
 rw [h0] at hs
 have hp:=h.few.2.1
 have hm:plL (plE ps[0]) ∈ linesF (es.map flE) (ps.map plE):=by
  unfold linesF
  exact List.mem_append.2 (.inr (List.mem_map.2 ⟨plE ps[0],List.mem_map.2 ⟨_,List.getElem_mem _,rfl⟩,rfl⟩))
 rw [← hs] at hm
 have:plL (plE ps[0])=[]:=by simpa using hm
 unfold plL pageL at this
 simp at this
def RowAt (W:World) (b c:Nat) (cur:Array Value) (L:List ByteArray):Prop:=W.heap[b]?=some (.cells cur 9 (0,0))/\cur.size=c/\c<=maxLen/\L.length<=c/\cur.toList.take L.length=L.map Value.string
theorem RowAt.below {W V:World} {b c:Nat} {cur:Array Value} {L:List ByteArray} (h:RowAt W b c cur L) (hb:Below W.heap.size W V):RowAt V b c cur L:=⟨(hb.block b (Array.getElem?_eq_some_iff.1 h.1).1).trans h.1,h.2⟩
def CloneOut (L:List ByteArray) (V:World) (e:Ending) (w':World):Prop :=
 ∃ (b c:Nat) (cur:Array Value),e=.returned (.slice (some ⟨b,0,none⟩) L.length c)/\V.heap.size<=b/\b < w'.heap.size/\RowAt w' b c cur L/\Below V.heap.size V w'
theorem clone_any (G:Nat) (L:List ByteArray) (W:World) (h0:0 < L.length) (hn:L.length<=1000000) (hc:∀ (k:Nat) (h:k < L.length),W.cell? ⟨G,k,none⟩=some (.string L[k])) :
  Calls Tryz.prog 20 #[.slice (some ⟨G,0,none⟩) L.length L.length] W (CloneOut L W):=by
 refine (Tryz.slices_Clone_string G 0 L.length L.length L W (Nat.le_refl _) (by omega) (fun j hj => ?_)).mono ?_
 ·rw [Nat.zero_add,hc j hj,List.getD_eq_getElem?_getD,List.getElem?_eq_getElem hj]; rfl
 ·rintro e w' ⟨v',rfl,hown,hne,hb⟩
  rw [List.take_length] at hown
  rcases hown.2 with ⟨h1,h2⟩ | ⟨g,cap,cur,h1,hg,hcl,h4,h5,hsz,htk⟩
  ·exact absurd h1 hne
  ·subst h1
   refine ⟨g,cap,cur,rfl,hg,(Array.getElem?_eq_some_iff.1 hcl).1,⟨hcl,by omega,h5,h4,?_⟩,hb⟩
   simpa using htk
theorem insert_at {L:List ByteArray} {k b c v:Nat} {s:ByteArray} {cur:Array Value} {V:World} (hrow:RowAt V b c cur L) (hk:k < L.length) (hn:L.length<=1000000) (hv:V.heap[v]?=some (.cells #[.string s] 9 (0,0))) (hvb:v ≠ b) :
  Calls Tryz.prog 19 #[.slice (some ⟨b,0,none⟩) L.length c,.int .i64 k,.slice (some ⟨v,0,none⟩) 1 1] V (InsOut L k s b V) :=
 insert_any b c k v L s cur V hrow.1 hrow.2.1 hrow.2.2.1 hrow.2.2.2.1 hrow.2.2.2.2 hk hn hv hvb
def insB (L:List ByteArray) (k:Nat) (s:ByteArray):List ByteArray:=L.take k ++ (s :: L.drop k)
theorem insB_len (L:List ByteArray) (k:Nat) (s:ByteArray) (hk:k < L.length):(insB L k s).length=L.length + 1:=by unfold insB; simp; omega
theorem split_ins {ls:List (List UInt8)} (hn:∀ l ∈ ls,(10:UInt8) ∉ l) {x:List UInt8} (hx:(10:UInt8) ∉ x) (k:Nat):Lib.split (joinN (ls.take k ++ (x :: ls.drop k))) [10]=ls.take k ++ (x :: ls.drop k):=by
 have hall:∀ p ∈ ls.take k ++ (x :: ls.drop k),(10:UInt8) ∉ p:=fun p hp => by
  rcases List.mem_append.1 hp with hp | hp
  ·exact hn p (List.mem_of_mem_take hp)
  ·rcases List.mem_cons.1 hp with rfl | hp
   ·exact hx
   ·exact hn p (List.mem_of_mem_drop hp)
 cases hl:ls.take k ++ (x :: ls.drop k) with
 | nil => simp at hl
 | cons a r =>
  rw [hl] at hall
  exact lines_back a r hall
theorem join_ins {L:List ByteArray} {k b c:Nat} {s U:ByteArray} {V:World} (hk:k < L.length) (hn:L.length<=1000000) (hU:(⟨(Lib.join ((insB L k s).map (·.data.toList)) [10]).toArray⟩:ByteArray)=U) (hs:U.size<=1000000) (hb:b < V.heap.size) (hc:L.length + 1<=c) (hcells:∀ j x,(L.take k ++ (s :: L.drop k))[j]?=some x->V.cell? ⟨b,j,none⟩=some (.string x)) :
  Calls Tryz.prog 18 #[.slice (some ⟨b,0,none⟩) (L.length + 1) c,.string ⟨#[10]⟩] V fun e w' => e=.returned (.string U)/\Below V.heap.size V w':=by
 have hl:=insB_len L k s hk
 have h:=Tryz.strings_Join b 0 c (insB L k s) ⟨#[10]⟩ V (fun j x hj => by rw [Nat.zero_add]; exact hcells j x hj) hb (by omega) (by omega) (by
  have:U.size=(Lib.join ((insB L k s).map (·.data.toList)) [10]).length:=by rw [← hU,← ValM.len_size]
  show (Lib.join ((insB L k s).map (·.data.toList)) [10]).length<=_
  omega)
 rw [hl] at h
 refine h.mono fun e w' h => ?_
 rw [← hU]
 exact h
def RowC (W:World) (b:Nat) (L:List ByteArray):Prop:=b < W.heap.size/\∀ j x,L[j]?=some x->W.cell? ⟨b,j,none⟩=some (.string x)
theorem RowC.below {W V:World} {b:Nat} {L:List ByteArray} (h:RowC W b L) (hb:Below W.heap.size W V):RowC V b L:=⟨Nat.lt_of_lt_of_le h.1 hb.size,fun j x hj => (hb.cell (p:=⟨b,j,none⟩) h.1).trans (h.2 j x hj)⟩
theorem RowC.more {W:World} {b:Nat} {L:List ByteArray} (h:RowC W b L) (o:Obj):RowC (W.alloc o) b L:=h.below (b_new W o)
def LongL (L:List ByteArray):Prop:=∃ (j:Nat) (h:j < L.length),160 < L[j].size
def BadOut (L:List ByteArray) (er0:Int) (at':Int->Prop) (V:World) (e:Ending) (w':World):Prop :=
 ∃ kl er:Int,e=.returned (.tuple #[zeroFm,.int .i64 kl,.int .i64 er])/\er ≠ 0/\((er=er0/\at' kl) ∨ LongL L)/\Below V.heap.size V w'
def JoinP (v:World) (L:List ByteArray) (n k:Nat) (s U:ByteArray):Prop :=
 ∀ (V:World) (b c:Nat),RowC V b (L.take k ++ (s :: L.drop k))->n + 1<=c->Calls Tryz.prog 18 #[.slice (some ⟨b,0,none⟩) (n + 1:Nat) c,.string ⟨#[10]⟩] V fun e w' => e=.returned (.string U)/\Below V.heap.size V w'
structure TurnF (v:World) (L:List ByteArray) (n k:Nat) (ln U1 U2:ByteArray):Prop where
 at':∀ h:k < L.length,L[k]=ln
 r1:∀ V,Below v.heap.size v V->Calls Tryz.prog 11 #[.string U1] V (BadOut L 6 (fun _ => True) V)
 r2:∀ V,Below v.heap.size v V->Calls Tryz.prog 11 #[.string U2] V (BadOut L 3 (fun kl => kl=(k:Int) + 1) V)
 cl:∀ (G:Nat) (V:World),(∀ (j:Nat) (h:j < L.length),V.cell? ⟨G,j,none⟩=some (.string L[j]))->Calls Tryz.prog 20 #[.slice (some ⟨G,0,none⟩) n n] V fun e w' => ∃ (b c:Nat) (cur:Array Value),e=.returned (.slice (some ⟨b,0,none⟩) n c)/\V.heap.size<=b/\b < w'.heap.size/\RowAt w' b c cur L/\Below V.heap.size V w'
 ins:∀ (s:ByteArray) (V:World) (b c v:Nat) (cur:Array Value),RowAt V b c cur L->V.heap[v]?=some (.cells #[.string s] 9 (0,0))->v ≠ b->Calls Tryz.prog 19 #[.slice (some ⟨b,0,none⟩) n c,.int .i64 k,.slice (some ⟨v,0,none⟩) 1 1] V fun e w' => ∃ b' c':Nat,e=.returned (.slice (some ⟨b',0,none⟩) (n + 1:Nat) c')/\n + 1<=c'/\RowC w' b' (L.take k ++ (s :: L.drop k))/\(∀ B,B<=b->Below B V w')/\∀ q,q < V.heap.size->q ≠ b->w'.heap[q]?=V.heap[q]?
 j1:JoinP v L n k ln U1
 j2:JoinP v L n k ⟨#[119,104,97,116]⟩ U2
theorem err_bad {V w':World} {e:Ending} {L:List ByteArray} {ls:List (List UInt8)} {er0:Int} {p:Int->Prop} (hLf:L.map (fun t => t.data.toList)=ls) (h:ErrOut ls er0 p V e w'):BadOut L er0 p V e w':=by
 obtain ⟨hb,kl,er,rfl,h0,h1⟩:=h
 refine ⟨kl,er,rfl,h0,?_,hb⟩
 rcases h1 with h1 | ⟨l,hl,hlt⟩
 ·exact .inl h1
 ·right
  rw [← hLf] at hl
  obtain ⟨t,ht,rfl⟩:=List.mem_map.1 hl
  obtain ⟨j,hj,rfl⟩:=List.getElem_of_mem ht
  exact ⟨j,hj,hlt⟩
theorem turn_facts {v:World} {es:List FE} {ps:List PE} (hok:FormOk v es ps (xOf es)) (hrk:rankE (es.map FE.fd) (xOf es)=0) (hn10:es.length<=10) (hp4:ps.length<=4) (hRV:RVars v) {L:List ByteArray} (hLf:L.map (fun t => t.data.toList)=linesF (es.map flE) (ps.map plE)) {n k:Nat} (hn:L.length=n) (hkn:k < n):∃ ln U1 U2,TurnF v L n k ln U1 U2:=by
 have hkL:k < L.length:=by omega
 have hL20:L.length<=14:=by
  have:=congrArg List.length hLf
  rw [List.length_map] at this
  rw [this]; unfold linesF; simp; omega
 have hins:∀ s:ByteArray,(insB L k s).map (fun t => t.data.toList)=(linesF (es.map flE) (ps.map plE)).take k ++ (s.data.toList :: (linesF (es.map flE) (ps.map plE)).drop k):=fun s => by
  rw [← hLf]
  unfold insB
  rw [List.map_append,List.map_cons,List.map_take,List.map_drop]
 have hsz:∀ (s U:ByteArray),s.size<=6300->(⟨(Lib.join ((insB L k s).map (·.data.toList)) [10]).toArray⟩:ByteArray)=U->U.size<=1000000:=fun s U hs hU => by
  rw [← hU,← ValM.len_size]
  show (Lib.join ((insB L k s).map (·.data.toList)) [10]).length<=_
  rw [join_lines]
  have h1:=joinN_len ((insB L k s).map (·.data.toList)) 6300 (fun x hx => by
   rw [hins s] at hx
   rcases List.mem_append.1 hx with hx | hx
   ·exact hok.line x (List.mem_of_mem_take hx)
   ·rcases List.mem_cons.1 hx with rfl | hx
    ·rw [ValM.len_size]; exact hs
    ·exact hok.line x (List.mem_of_mem_drop hx))
  rw [List.length_map,insB_len L k s hkL] at h1
  have:(L.length + 1) * 6301<=15 * 6301:=Nat.mul_le_mul_right _ (by omega)
  omega
 have hkl:k < (linesF (es.map flE) (ps.map plE)).length:=by rw [← hLf,List.length_map]; exact hkL
 have hlk:(linesF (es.map flE) (ps.map plE))[k]=L[k].data.toList:=by
  simp only [← hLf,List.getElem_map]
 have hlnS:L[k].size<=6300:=by
  rw [← ValM.len_size,← hlk]
  exact hok.line _ (List.getElem_mem _)
 obtain ⟨U1,hU1⟩:∃ U,(⟨(Lib.join ((insB L k L[k]).map (·.data.toList)) [10]).toArray⟩:ByteArray)=U:=⟨_,rfl⟩
 obtain ⟨U2,hU2⟩:∃ U,(⟨(Lib.join ((insB L k ⟨#[119,104,97,116]⟩).map (·.data.toList)) [10]).toArray⟩:ByteArray)=U:=⟨_,rfl⟩
 have hz1:=hsz L[k] U1 hlnS hU1
 have hz2:=hsz ⟨#[119,104,97,116]⟩ U2 (by decide) hU2
 refine ⟨L[k],U1,U2,fun _ => rfl,fun V hV => ?_,fun V hV => ?_,fun G V hc => ?_,fun s V b c v cur h1 h2 h3 => ?_,fun V b c h3 h4 => ?_,fun V b c h3 h4 => ?_⟩
 ·refine (read_any U1 V hz1 (hRV.below hV)).mono fun e w' h => ?_
  refine err_bad hLf (twice_read (hok.belowF hV) hrk hn10 hp4 k hkl ?_ h)
  rw [← hU1]
  show Lib.split (Lib.join ((insB L k L[k]).map (·.data.toList)) [10]) [10]=_
  rw [join_lines,hins L[k],← hlk]
  exact split_ins (fun l hl => hok.nofeed l hl) (hok.nofeed _ (List.getElem_mem _)) k
 ·refine (read_any U2 V hz2 (hRV.below hV)).mono fun e w' h => ?_
  refine err_bad hLf (what_read (hok.belowF hV) hn10 hp4 k hkl ?_ h)
  rw [← hU2]
  show Lib.split (Lib.join ((insB L k ⟨#[119,104,97,116]⟩).map (·.data.toList)) [10]) [10]=_
  rw [join_lines,hins ⟨#[119,104,97,116]⟩]
  exact split_ins (fun l hl => hok.nofeed l hl) (by decide) k
 ·have h:=clone_any G L V (by omega) (by omega) hc
  unfold CloneOut at h
  rw [hn] at h
  exact h
 ·have h:=insert_at h1 hkL (by omega) h2 h3
  unfold InsOut at h
  rw [hn] at h
  exact h.mono fun e w' ⟨b',c',a1,a2,a3,a4,a5,a6,a7⟩ => ⟨b',c',a1,a2,⟨a4,a5⟩,a6,a7⟩
 ·have h:=join_ins hkL (by omega) hU1 hz1 h3.1 (show L.length + 1<=c by omega) h3.2
  rw [hn] at h
  exact h
 ·have h:=join_ins hkL (by omega) hU2 hz2 h3.1 (show L.length + 1<=c by omega) h3.2
  rw [hn] at h
  exact h
def At1 (W:World) (v:Nat) (s:ByteArray):Prop:=W.heap[v]?=some (.cells #[.string s] 9 (0,0))
theorem At1.new (W:World) (s:ByteArray):At1 (W.alloc (.cells #[.string s] 9)) W.heap.size s:=World.alloc_heap_new W _
theorem At1.lt {W:World} {v:Nat} {s:ByteArray} (h:At1 W v s):v < W.heap.size:=(Array.getElem?_eq_some_iff.1 h).1
theorem At1.below {W V:World} {v:Nat} {s:ByteArray} (h:At1 W v s) (hb:Below W.heap.size W V):At1 V v s:=(hb.block v h.lt).trans h
theorem At1.more {W:World} {v:Nat} {s:ByteArray} (h:At1 W v s) (o:Obj):At1 (W.alloc o) v s:=h.below (b_new W o)
theorem At1.drew {W:World} {v:Nat} {s:ByteArray} (h:At1 W v s):At1 W.drew v s:=h
theorem At1.at_ (W:World) (s:ByteArray) (H:Nat) (h:H=W.heap.size):At1 (W.alloc (.cells #[.string s] 9)) H s:=by rw [h]; exact At1.new W s
def AtF (W:World) (v:Nat):Prop:=W.heap[v]?=some (.cells #[.slice none 0 0,.slice none 0 0] 25 (0,0))
theorem AtF.new (W:World):AtF (W.alloc (.cells #[.slice none 0 0,.slice none 0 0] 25)) W.heap.size:=World.alloc_heap_new W _
theorem AtF.lt {W:World} {v:Nat} (h:AtF W v):v < W.heap.size:=(Array.getElem?_eq_some_iff.1 h).1
theorem AtF.below {W V:World} {v:Nat} (h:AtF W v) (hb:Below W.heap.size W V):AtF V v:=(hb.block v h.lt).trans h
theorem AtF.more {W:World} {v:Nat} (h:AtF W v) (o:Obj):AtF (W.alloc o) v:=h.below (b_new W o)
theorem AtF.drew {W:World} {v:Nat} (h:AtF W v):AtF W.drew v:=h
theorem AtF.cells {W:World} {v:Nat} (h:AtF W v):W.cell? ⟨v,0,none⟩=some (.slice none 0 0)/\W.cell? ⟨v,1,none⟩=some (.slice none 0 0)/\(∀ o,W.frozen? ⟨v,o,none⟩=false)/\v < W.heap.size:=by
 have hl:=h.lt
 unfold AtF at h
 exact ⟨by simp [World.cell?,h],by simp [World.cell?,h],fun o => by simp [World.frozen?,h],hl⟩
theorem RowAt.more {W:World} {b c:Nat} {cur:Array Value} {L:List ByteArray} (h:RowAt W b c cur L) (o:Obj):RowAt (W.alloc o) b c cur L:=h.below (b_new W o)
theorem RowAt.lt {W:World} {b c:Nat} {cur:Array Value} {L:List ByteArray} (h:RowAt W b c cur L):b < W.heap.size:=(Array.getElem?_eq_some_iff.1 h.1).1
theorem form_ne' {W:World} {v b c:Nat} {cur:Array Value} {L:List ByteArray} (h:AtF W v) (hr:RowAt W b c cur L):v ≠ b:=fun e => by
 subst e
 have h1:=hr.1
 unfold AtF at h
 rw [h] at h1
 injection h1 with h1
 injection h1 with _ h2
 exact absurd h2 (by decide)
theorem AtF.ins {W V:World} {v b c:Nat} {cur:Array Value} {L:List ByteArray} (h:AtF W v) (hr:RowAt W b c cur L) (hk:∀ q,q < W.heap.size->q ≠ b->V.heap[q]?=W.heap[q]?):AtF V v:=(hk v h.lt (form_ne' h hr)).trans h
theorem b_set2 {a U:World} {B K:Nat} (h:Below B a U) (hK:B<=K) (x y:Value):Below B a ((U.setCell ⟨K,0,none⟩ x).setCell ⟨K,1,none⟩ y):=(h.setCell (p:=⟨K,0,none⟩) hK x).setCell (p:=⟨K,1,none⟩) hK y
end TxV
end Go.Proofs.YtepikijjagoehaaGreatDoor
