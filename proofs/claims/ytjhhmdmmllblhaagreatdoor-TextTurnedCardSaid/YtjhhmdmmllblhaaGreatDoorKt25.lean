/- TxRun ShelfIns TxIns TxTurn: what these laws name of them. -/
import Derived.Shelf.Spec.SlicesInsertGrow
import Derived.Laws.AppendOwn
import Derived.Test.YtjhhmdmmllblhaaGreatDoorKt24
set_option linter.unusedVariables false
namespace Go.Proofs.YtjhhmdmmllblhaaGreatDoor.KpS
end Go.Proofs.YtjhhmdmmllblhaaGreatDoor.KpS
namespace Go.Proofs.YtjhhmdmmllblhaaGreatDoor.TxU
open Go.RowKit
open ValM LexM NumM ExM NmM ShowM PrM Kit ExL ExP ExN RawV Within RawL GenL FldP FldR FldC FrmM NmA PgM PgA ShT ShE TxM TxR TxP TxT Prn TxQ TxW TxN TxF TxG TxL TxD PsR PsD PsE PrU
set_option linter.unusedVariables false
def xE (es:List FE) (k:Nat):Ex:=(es[k]?.map FE.x).getD noX
theorem xE_at {es:List FE} {k:Nat} (h:k < es.length):xE es k=es[k].x:=by unfold xE; rw [List.getElem?_eq_getElem h]; rfl
theorem srcs_xE (es:List FE):Srcs (xE es) es:=fun i h => xE_at h
theorem pgs_of {w:World} {base:Nat} {v:Value} {ps:List PE} (h:w.ownsRow base 50 8 v ps.length (peC ps)):∃ A c,v=.slice A ps.length c/\Pgs w A ps:=by
 rcases Nat.eq_zero_or_pos ps.length with h0 | h0
 ·obtain ⟨A,c,e⟩:=GenL.own_slice h
  exact ⟨A,c,e,fun i hi => absurd hi (by omega)⟩
 ·obtain ⟨g,cap,e,_,_,_,_,hc⟩:=GenL.own_form h h0
  refine ⟨_,cap,e,fun i hi => ⟨_,rfl,?_⟩⟩
  have hq:∀ j,j < 8->w.cell? ⟨g,i * 8 + j,none⟩=(pgC ps[i])[j]?:=fun j hj => by rw [hc _ (by omega),peC_at ps i j hi hj]
  rw [add_block]
  exact ⟨hq 0 (by decide),hq 1 (by decide),hq 2 (by decide),hq 3 (by decide),hq 4 (by decide),hq 5 (by decide),hq 6 (by decide),hq 7 (by decide)⟩
theorem trow_of {P:Nat->Prop} {w:World} {A:Option Addr} {l:List ByteArray} (h:StrP P w A l):TRow w A l:=fun j hj => by
 obtain ⟨a,e,_,hc⟩:=h j hj
 exact ⟨a,e,hc⟩
structure Parts (base:Nat) (es:List FE) (ps:List PE) (u v:Value) (wr:World):Prop where
 ownF:wr.ownsRow base 47 9 u es.length (feC es)
 ownP:wr.ownsRow base 50 8 v ps.length (peC ps)
 isF:∀ e ∈ es,IsP (fun b => base<=b) wr e.x e.x.d e.B e.m
 isP:∀ e ∈ ps,StrP (fun b => base<=b) wr e.F e.fs/\IsP (fun b => base<=b) wr e.x e.x.d e.B e.m
 bdF:∀ e ∈ es,e.nm.size<=2000000/\e.x.nodes<=160
 bdP:∀ e ∈ ps,PgBd e
 few:es.length + ps.length<=1000
theorem LnI.parts {w:World} {B:Nat} {es:List FE} {ps:List PE} {u v:Value} {wr:World} (h:LnI w B es ps u v wr) (hf:es.length + ps.length<=1000):Parts w.heap.size es ps u v wr :=
 ⟨h.ownF,h.ownP,fun e he => IsP.keep (fun _ _ _ => rfl) (fun b hb _ => hb.1) _ _ _ _ (h.isF e he),fun e he => ⟨(h.isP e he).1.keep (fun _ _ _ => rfl) (fun b hb _ => hb.1),IsP.keep (fun _ _ _ => rfl) (fun b hb _ => hb.1) _ _ _ _ (h.isP e he).2⟩,h.bdF,h.bdP,hf⟩
theorem Parts.below {base:Nat} {es:List FE} {ps:List PE} {u v:Value} {wr w':World} (h:Parts base es ps u v wr) (hb:Below wr.heap.size wr w'):Parts base es ps u v w' :=
 ⟨own_below h.ownF hb,own_below h.ownP hb,fun e he => (h.isF e he).below hb,fun e he => ⟨(h.isP e he).1.keep (fun b _ hl => hb.block b hl) (fun _ hp _ => hp),(h.isP e he).2.below hb⟩,h.bdF,h.bdP,h.few⟩
theorem Parts.row {base:Nat} {es:List FE} {ps:List PE} {u v:Value} {wr:World} (h:Parts base es ps u v wr) {R:Nat} (hR:R < base) (cs:Array Value):Parts base es ps u v (wr.setRow R cs):=by
 have hg:wr.grownBy (wr.setRow R cs) (some R):=⟨rfl,rfl,rfl,by simp [World.setRow],fun k _ hne => setRow_other wr R k cs (fun e => hne (by rw [e]))⟩
 refine ⟨World.ownsRow.kept h.ownF hg ?_,World.ownsRow.kept h.ownP hg ?_,fun e he => isP_row (h.isF e he) (fun b hb => by omega),fun e he => ⟨(h.isP e he).1.keep (fun b hb _ => setRow_other wr R b cs (by omega)) (fun _ hp _ => hp),isP_row (h.isP e he).2 (fun b hb => by omega)⟩,h.bdF,h.bdP,h.few⟩
 ·cases ho:u.ownBlock with
  | none => exact .inl rfl
  | some g => right; intro e; injection e with e; have:=(h.ownF.lt g ho).1; omega
 ·cases ho:v.ownBlock with
  | none => exact .inl rfl
  | some g => right; intro e; injection e with e; have:=(h.ownP.lt g ho).1; omega
theorem Parts.formIn {base:Nat} {es:List FE} {ps:List PE} {u v:Value} {wr:World} (h:Parts base es ps u v wr):∃ FA fc PA pc,u=.slice FA es.length fc/\v=.slice PA ps.length pc/\FormIn (es.map FE.fd) (xE es) FA fc ps PA pc wr/\FIs wr es:=by
 have hfew:=h.few
 obtain ⟨FA,fc,rfl,hfl⟩:=own_flds h.ownF rfl
 obtain ⟨PA,pc,rfl,hpg⟩:=pgs_of h.ownP
 have hl:(es.map FE.fd).length=es.length:=List.length_map _
 have hu:=h.ownF
 have hv:=h.ownP
 rw [hl] at hu
 have c1:=TxG.own_cap hu
 have c2:=TxG.own_cap hv
 refine ⟨FA,fc,PA,pc,by rw [hl],rfl,⟨by rw [hl]; omega,hfl,fun k hk => ?_,fun k hk => ?_,by rw [hl]; exact c1,hpg,fun e he => ?_,c2,by omega,fun e he => ⟨?_,?_⟩⟩,fun i hi => (h.isF _ (List.getElem_mem hi)).is⟩
 ·rw [hl] at hk
  have hm:=List.getElem_mem hk
  rw [List.getElem_map,xE_at hk]
  exact ⟨by have:=(h.bdF _ hm).1; show es[k].nm.size<=_; unfold maxLen; omega,(h.isF _ hm).is⟩
 ·rw [hl] at hk
  rw [xE_at hk]
  have:=(h.bdF _ (List.getElem_mem hk)).2
  omega
 ·have hb:=h.bdP e he
  exact ⟨by have:=hb.nm; unfold maxLen; omega,trow_of (h.isP e he).1,fun s hs => by have:=hb.txt s hs; unfold maxLen; omega,Nat.le_trans hb.cap.1 hb.cap.2,(h.isP e he).2.is⟩
 ·have:=(h.bdP e he).len; omega
 ·have:=(h.bdP e he).nodes; omega
def zeroFm:Value:=.agg #[.slice none 0 0,.slice none 0 0]
/-- What Read hands back. -/
def ReadOut (l : List UInt8) (w : World) (e : Ending) (w' : World) : Prop :=
  Below w.heap.size w w' ∧ ((20 < (Lib.split l [10]).length ∧ e = .returned (.tuple #[zeroFm, .int .i64 0, .int .i64 1])) ∨
    ((Lib.split l [10]).length ≤ 20 ∧ (rdAll pfR (Lib.split l [10])).1.2 ≠ 0 ∧ e = .returned (.tuple #[zeroFm, .int .i64 (rdAll pfR (Lib.split l [10])).1.1, .int .i64 (rdAll pfR (Lib.split l [10])).1.2])) ∨
    ((Lib.split l [10]).length ≤ 20 ∧ (rdAll pfR (Lib.split l [10])).1.2 = 0 ∧ ∃ (es : List FE) (ps : List PE) (FA : Option Addr) (fc : Nat) (PA : Option Addr) (pc : Nat), es.map flE = (rdAll pfR (Lib.split l [10])).2.1 ∧ pls ps = (rdAll pfR (Lib.split l [10])).2.2 ∧
      FormIn (es.map FE.fd) (xE es) FA fc ps PA pc w' ∧ FIs w' es ∧ e = .returned (if formE (es.map FE.fd) (xE es) ps = 0 then .tuple #[.agg #[.slice FA es.length fc, .slice PA ps.length pc], .int .i64 0, .int .i64 0] else .tuple #[zeroFm, .int .i64 0, .int .i64 (formE (es.map FE.fd) (xE es) ps)])))
theorem count_any (s:ByteArray) (w:World) (hs:s.size<=2000000) (hm:Mx w):Calls Tryz.prog 20 #[.string s,.string ⟨#[10]⟩] w fun e w' => e=.returned (.int .i64 (Lib.countB s ⟨#[10]⟩))/\w=w':=by
 obtain ⟨m,hm⟩:=hm
 exact (Tryz.strings_Count_any s ⟨#[10]⟩ m w (by omega) hm (by decide)).mono fun e w' h => ⟨h.1,h.2.symm⟩
def SplitOut (L:List ByteArray) (w:World) (e:Ending) (w':World):Prop :=
 ∃ G,e=.returned (.slice (some ⟨G,0,none⟩) L.length L.length)/\w.heap.size<=G/\G < w'.heap.size/\(∀ (k:Nat) (h:k < L.length),w'.cell? ⟨G,k,none⟩=some (.string L[k]))/\Below w.heap.size w w'
theorem split_lines (s:ByteArray):∃ L:List ByteArray,L.map (fun t => t.data.toList)=Lib.split s.data.toList [10]/\L.length=Lib.countB s ⟨#[10]⟩ + 1/\∀ (w:World),s.size<=2000000->Mx w->Calls Tryz.prog 6 #[.string s,.string ⟨#[10]⟩] w (SplitOut L w):=by
 have hlen:=Lib.splitB_all ⟨#[10]⟩ (by decide) 0 _ s rfl
 refine ⟨Lib.splitB ⟨#[10]⟩ 0 (Lib.countB s ⟨#[10]⟩) s,Lib.splitB_data ⟨#[10]⟩ 0 _ s,hlen,fun w hs hm => ?_⟩
 obtain ⟨m,hm⟩:=hm
 refine (Tryz.strings_Split s ⟨#[10]⟩ m w (by omega) hm (by decide)).mono fun e w' h => ?_
 obtain ⟨rfl,rfl⟩:=h
 refine ⟨w.heap.size,by rw [hlen],Nat.le_refl _,by simp,fun k hk => ?_,b_new _ _⟩
 rw [row_new]
 rw [List.getElem?_toArray,List.getElem?_map,List.getElem?_eq_getElem hk]
 rfl
theorem piece_le (sep:List UInt8):∀ (L:List (List UInt8)) (a:List UInt8),a ∈ L->a.length<=(joinS sep L).length
 | [],a,h => by cases h
 | [b],a,h => by simp at h; subst h; exact Nat.le_refl _
 | b :: c :: r,a,h => by
  show a.length<=(b ++ (sep ++ joinS sep (c :: r))).length
  rw [List.length_append,List.length_append]
  rcases List.mem_cons.1 h with rfl | h
  ·omega
  ·have:=piece_le sep (c :: r) a h
   omega
theorem rd_step {ls:List (List UInt8)} {k:Nat} {l:List UInt8} {r r2:List Fl × List Pl} (hk:k < ls.length) (hl:ls[k]=l) (h:rdAll pfR ls=rdFrom pfR k r (ls.drop k)) (h1:(rdLine pfR (decide (r.2 ≠ [])) l).1=0) (h2:r2=addL r (rdLine pfR (decide (r.2 ≠ [])) l).2):rdAll pfR ls=rdFrom pfR (k + 1) r2 (ls.drop (k + 1)):=by
 rw [h,List.drop_eq_getElem_cons hk,hl,rd_ok (o:=(rdLine pfR (decide (r.2 ≠ [])) l).2) (Prod.ext h1 rfl),h2]
theorem rd_stop {ls:List (List UInt8)} {k:Nat} {l:List UInt8} {r:List Fl × List Pl} {er:Int} (hk:k < ls.length) (hl:ls[k]=l) (h:rdAll pfR ls=rdFrom pfR k r (ls.drop k)) (h1:(rdLine pfR (decide (r.2 ≠ [])) l).1=er) (h2:er ≠ 0):(rdAll pfR ls).1=(k + 1,er):=by
 rw [h,List.drop_eq_getElem_cons hk,hl,rd_bad (o:=(rdLine pfR (decide (r.2 ≠ [])) l).2) (Prod.ext h1 rfl) h2]
set_option maxRecDepth 100000 in
set_option maxHeartbeats 16000000 in
theorem read_any (s:ByteArray) (w:World) (hs:s.size<=1000000) (hv:RVars w):Calls Tryz.prog 8 #[.string s] w (ReadOut s.data.toList w):=by
 obtain ⟨L,hLs,hLl,hsp⟩:=split_lines s
 have hLn:(Lib.split s.data.toList [10]).length=L.length:=by rw [← hLs,List.length_map]
 have hsz:∀ (k:Nat) (h:k < L.length),L[k].size<=1000000:=fun k hk => by
  have hj:=splitK_join [10] (by simp) (Lib.count s.data.toList [10]) s.data.toList
  have h1:Lib.splitK [10] 0 (Lib.count s.data.toList [10]) s.data.toList=L.map (fun t => t.data.toList):=hLs.symm
  rw [h1] at hj
  have:=piece_le [10] (L.map (fun t => t.data.toList)) L[k].data.toList (List.mem_map.2 ⟨L[k],List.getElem_mem hk,rfl⟩)
  rw [hj] at this
  exact Nat.le_trans this hs
 obtain ⟨W1,hW1⟩:∃ V,w.alloc (.cells #[.slice none 0 0,.slice none 0 0] 29)=V:=⟨_,rfl⟩
 obtain ⟨R,hR⟩:∃ B,w.heap.size=B:=⟨_,rfl⟩
 have hb1:Below w.heap.size w W1:=by rw [← hW1]; exact b_new _ _
 have hk1:W1.heap[R]?=some (.cells #[.slice none 0 0,.slice none 0 0] 29 (0,0)):=by rw [← hW1,← hR]; exact World.alloc_heap_new w _
 have hbox:∀ V,Below W1.heap.size W1 V->V.heap[R]?=some (.cells #[.slice none 0 0,.slice none 0 0] 29 (0,0)):=fun V hV => (hV.block _ (Array.getElem?_eq_some_iff.1 hk1).1).trans hk1
 have hR1:R < W1.heap.size:=(Array.getElem?_eq_some_iff.1 hk1).1
 have hcnt:=count_any s W1 (by omega) (hv.below hb1).mx
 have hcl:(Lib.countB s ⟨#[10]⟩:Int)=(L.length:Int) - 1:=by omega
 have HW1:=Lib.hid hW1
 have HR:=Lib.hid hR
 have HB1:=Lib.hid hb1
 have HBox:=Lib.hid hbox
 have HR1:=Lib.hid hR1
 have HV:=Lib.hid hv
 have HLs:=Lib.hid hLs
 have HLn:=Lib.hid hLn
 have HSz:=Lib.hid hsz
 have HS:=Lib.hid hs
 have HSp:=Lib.hid hsp
 rw [hcl] at hcnt
 have HCnt:=Lib.hid hcnt
 clear hW1 hR hb1 hbox hR1 hv hLs hLn hsz hs hsp hcnt hcl hk1
 have hpos:1<=L.length:=by omega
 by_cases h20:20 < L.length
 ·have t1:(20:Int)<=(L.length:Int) - 1:=by omega
  have HB20:=Lib.hid h20
  have hk2:=HBox.out W1 (Below.refl _ _)
  obtain ⟨j1,j2,j3⟩:=row_back (cs:=#[.slice none 0 0,.slice none 0 0]) HB1.out (by rw [HR.out]; exact Nat.le_refl _) hk2
  have HJ1:=Lib.hid j1
  have HJ2:=Lib.hid j2
  clear j1 j2 j3 h20 hLl
  go_enter Tryz.func8,Tryz.ntmps8
  go_upto_region 1 with fail
  rw [HW1.out,HR.out]
  go_wp2_with fail
  refine HCnt.out.mono ?_; rintro e w2 ⟨rfl,rfl⟩
  go_wp2_with (refine wpList_store_row rfl 29 _ _ rfl R #[.slice none 0 0,.slice none 0 0] rfl rfl 29 _ hk2 (by kernel_rfl) rfl (by simp [Value.oneCell']) ?_)
  obtain ⟨y0,y1⟩:=row_cells HJ1.out
  refine bodyPost_ret (v:=.tuple #[.agg #[.slice none 0 0,.slice none 0 0],.int .i64 0,.int .i64 1]) (by simp [results,Tryz.results8,go_sem,y0]) rfl ⟨HJ2.out,.inl ⟨by rw [HLn.out]; exact HB20.out,rfl⟩⟩
 ·have t1:¬ (20:Int)<=(L.length:Int) - 1:=by omega
  have HB20:=Lib.hid h20
  clear h20 hLl
  obtain ⟨W2,hW2⟩:∃ V,W1.alloc (.cells #[.slice none 0 0,.slice none 0 0] 29)=V:=⟨_,rfl⟩
  obtain ⟨B,hB⟩:∃ B,W1.heap.size=B:=⟨_,rfl⟩
  have hb2:Below W1.heap.size W1 W2:=by rw [← hW2]; exact b_new _ _
  have hk2:W2.heap[B]?=some (.cells #[.slice none 0 0,.slice none 0 0] 29 (0,0)):=by rw [← hW2,← hB]; exact World.alloc_heap_new W1 _
  have hspl:=HSp.out W2 (by have:=HS.out; omega) (HV.out.below (b_trans HB1.out hb2)).mx
  have HSpl:=Lib.hid hspl
  have HW2:=Lib.hid hW2
  have HB:=Lib.hid hB
  have HB2:=Lib.hid hb2
  have HK2:=Lib.hid hk2
  clear hspl hW2 hB hb2 hk2
  go_enter Tryz.func8,Tryz.ntmps8
  go_upto_region 1 with fail
  rw [HW1.out,HR.out]
  go_wp2_with fail
  refine HCnt.out.mono ?_; rintro e w2 ⟨rfl,rfl⟩
  go_upto_region 4 with fail
  rw [HW2.out,HB.out]
  go_wp2_with fail
  refine HSpl.out.mono ?_; rintro e w3 ⟨G,rfl,hG1,hG2,hGc,hb3⟩
  have hkB:w3.heap[B]?=some (.cells #[.slice none 0 0,.slice none 0 0] 29 (0,0)):=(hb3.block B (Array.getElem?_eq_some_iff.1 HK2.out).1).trans HK2.out
  have hst:=LnI.start hkB
  have hb13:Below W1.heap.size W1 w3:=b_trans HB2.out hb3
  have hGB:G ≠ B:=by have h1:=(Array.getElem?_eq_some_iff.1 HK2.out).1; omega
  have hRlt:R < w3.heap.size:=by have h1:=HR1.out; have h2:=hb13.size; omega
  have hRB:R ≠ B:=by have h1:=HR1.out; have h2:=HB.out; omega
  have hge:w.heap.size<=B:=by have h1:=HB.out; have h2:=HB1.out.size; omega
  have hlines:∀ (es:List FE) (ps:List PE) (u v:Value) (wr:World),LnI w3 B es ps u v wr->∀ (k:Nat) (h:k < L.length),wr.cell? ⟨G,k,none⟩=some (.string L[k]):=fun es ps u v wr hI k hk => (World.cell?_of_block (a:=⟨G,k,none⟩) (hI.kp.block G hG2 (fun e => hGB (by injection e)))).trans (hGc k hk)
  have hbelow:∀ (es:List FE) (ps:List PE) (u v:Value) (wr:World),LnI w3 B es ps u v wr->Below w.heap.size w wr/\wr.heap[R]?=some (.cells #[.slice none 0 0,.slice none 0 0] 29 (0,0)):=fun es ps u v wr hI => ⟨hI.below (b_trans HB1.out hb13) hge,(hI.kp.block R hRlt (fun e => hRB (by injection e))).trans (HBox.out w3 hb13)⟩
  have HSt:=Lib.hid hst
  have HLines:=Lib.hid hlines
  have HBelow:=Lib.hid hbelow
  have HRlt:=Lib.hid hRlt
  clear hG1 hG2 hGc hkB hst hb13 hGB hRlt hRB hge hlines hbelow hb3
  obtain ⟨n,hn⟩:∃ n,L.length=n:=⟨_,rfl⟩
  rw [hn] at t1 hpos ⊢
  have HN:=Lib.hid hn
  have hn20:n<=20:=by omega
  clear hn
  go_wp2_with fail
  go_loopw [6,7,8,17] (fun _ _ _ ii wr => ∃ (k:Nat) (es:List FE) (ps:List PE) (u v:Value),ii=.int .i64 k/\k<=n/\LnI w3 B es ps u v wr/\es.length + ps.length<=k/\rdAll pfR (Lib.split s.data.toList [10])=rdFrom pfR k (es.map flE,pls ps) ((Lib.split s.data.toList [10]).drop k)) (fun _ _ _ ii _ => n - (intOf ii).toNat)
  case atStart => exact ⟨0,[],[],_,_,rfl,Nat.zero_le _,HSt.out,Nat.le_refl _,rfl⟩
  case round =>
   obtain ⟨k,es,ps,u,v,rfl,hk,hI,hfew,hrd⟩:=hrel
   obtain ⟨wa,rfl⟩:∃ V,V=wr:=⟨_,rfl⟩
   by_cases hlt:k < n
   ·have hkL:k < L.length:=by have:=HN.out; omega
    have hcell:=HLines.out es ps u v wa hI k hkL
    have hlk:(Lib.split s.data.toList [10])[k]'(by rw [HLn.out]; exact hkL)=L[k].data.toList:=by simp only [← HLs.out,List.getElem_map]
    obtain ⟨ln,hln⟩:∃ ln,L[k]=ln:=⟨_,rfl⟩
    have hlsz:=HSz.out k hkL
    rw [hln] at hcell hlk hlsz
    have hadd:Calls Tryz.prog 21 #[.pointer (some ⟨B,0,none⟩),.string ln] wa (AddOut w3 B es ps ln.data.toList):=by
     by_cases hp:Lib.hasPrefix ln.data.toList pgW=true
     ·exact addPage_any ln w3 B es ps u v wa hI hlsz (HV.out.below (HBelow.out _ _ _ _ _ hI).1) (by omega) hp
     ·exact addField_any ln w3 B es ps u v wa hI hlsz (HV.out.below (HBelow.out _ _ _ _ _ hI).1) (by omega) hp
    have HAdd:=Lib.hid hadd
    have HRd:=Lib.hid hrd
    have HLk:=Lib.hid hlk
    have HFew:=Lib.hid hfew
    clear hadd hrd hlk hlsz hln hfew hI
    go_wp2_with fail
    refine HAdd.out.mono ?_; rintro e w4 ⟨es',ps',u',v',er,rfl,hI',hr1,hr2,hf2⟩
    have hkS:k < (Lib.split s.data.toList [10]).length:=by rw [HLn.out]; exact hkL
    have HI':=Lib.hid hI'
    by_cases her:er=0
    ·have t2:(er != 0)=false:=by rw [her]; rfl
     have HN2:=Lib.hid (rd_step hkS HLk.out HRd.out (by rw [her] at hr1; exact hr1) (hr2 her))
     have HF2:=Lib.hid hf2
     clear her hI' hr1 hr2 hf2
     go_wp2_with fail
     go_roundw
     case rel => exact ⟨k + 1,es',ps',u',v',by go_num,by omega,HI'.out,by have:=HFew.out; have:=HF2.out; omega,HN2.out⟩
     case measure => simp [intOf]; omega
    ·have t2:(er != 0)=true:=bne_iff_ne.2 her
     have hst:=rd_stop hkS HLk.out HRd.out hr1 her
     obtain ⟨hbw4,hk4⟩:=HBelow.out _ _ _ _ _ hI'
     obtain ⟨j1,j2,j3⟩:=row_back (cs:=#[.slice none 0 0,.slice none 0 0]) hbw4 (by rw [HR.out]; exact Nat.le_refl _) hk4
     have HJ1:=Lib.hid j1
     have HJ2:=Lib.hid j2
     have HEr:=Lib.hid her
     have HStop:=Lib.hid hst
     clear j1 j2 j3 her hI' hr1 hr2 hf2 hbw4 hst
     go_wp2_with (refine wpList_store_row rfl 29 _ _ rfl R #[.slice none 0 0,.slice none 0 0] rfl rfl 29 _ hk4 (by kernel_rfl) rfl (by simp [Value.oneCell']) ?_)
     obtain ⟨y0,y1⟩:=row_cells HJ1.out
     refine bodyPost_ret (v:=.tuple #[.agg #[.slice none 0 0,.slice none 0 0],.int .i64 ((k:Int) + 1),.int .i64 er]) (by simp [results,Tryz.results8,go_sem,y0]; try go_num) rfl ⟨HJ2.out,.inr (.inl ⟨by rw [HLn.out]; have:=HB20.out; omega,by rw [HStop.out]; exact HEr.out,by rw [HStop.out]; rfl⟩)⟩
   ·have hkn:k=n:=by omega
    subst hkn
    have hdrop:(Lib.split s.data.toList [10]).drop k=[]:=List.drop_eq_nil_of_le (by rw [HLn.out]; have:=HN.out; omega)
    rw [hdrop] at hrd
    have hrd:rdAll pfR (Lib.split s.data.toList [10])=((0,0),(es.map flE,pls ps)):=hrd
    obtain ⟨hbwa,hka⟩:=HBelow.out _ _ _ _ _ hI
    have hpt:=LnI.parts hI (by omega)
    obtain ⟨FA,fc,PA,pc,rfl,rfl,hin,hfi⟩:=hpt.formIn
    have hck:=ShE.check_any hin (HV.out.below hbwa).tv.pr.tab
    have hl:(es.map FE.fd).length=es.length:=List.length_map _
    rw [hl] at hck
    obtain ⟨r0,r1⟩:=row_cells hI.box
    have k0:wa.cell? ⟨B,0,none⟩=some (.slice FA es.length fc):=by rw [r0]; rfl
    have k1:wa.cell? ⟨B,1,none⟩=some (.slice PA ps.length pc):=by rw [r0]; rfl
    have hBlt:=(Array.getElem?_eq_some_iff.1 hI.box).1
    have hbB:∀ V,Below wa.heap.size wa V->V.cell? ⟨B,0,none⟩=some (.slice FA es.length fc)/\V.cell? ⟨B,1,none⟩=some (.slice PA ps.length pc):=fun V hV => ⟨(hV.cell (p:=⟨B,0,none⟩) hBlt).trans k0,(hV.cell (p:=⟨B,1,none⟩) hBlt).trans k1⟩
    obtain ⟨Q,hQ⟩:∃ Q,formE (es.map FE.fd) (xE es) ps=Q:=⟨_,rfl⟩
    rw [hQ] at hck
    obtain ⟨en,hen⟩:∃ n,es.length=n:=⟨_,rfl⟩
    obtain ⟨pn,hpn⟩:∃ n,ps.length=n:=⟨_,rfl⟩
    rw [hen,hpn] at hbB hck
    rw [hen] at k0
    rw [hpn] at k1
    have HEn:=Lib.hid hen
    have HPn:=Lib.hid hpn
    have HQ:=Lib.hid hQ
    have HCk:=Lib.hid hck
    have HRd:=Lib.hid hrd
    have HPt:=Lib.hid hpt
    have HBwa:=Lib.hid hbwa
    have HKa:=Lib.hid hka
    have HbB:=Lib.hid hbB
    have HRwa:=Lib.hid (Array.getElem?_eq_some_iff.1 hka).1
    clear hrd hdrop hin hfi hck hl r0 r1 hBlt hbB hQ hen hpn hI hfew hpt hbwa hka
    go_wp2_with fail
    refine (HCk.out wa (Below.refl _ _)).mono ?_; rintro e w5 ⟨rfl,hb5⟩
    have hk5:=(hb5.block R HRwa.out).trans HKa.out
    have hbw5:=b_trans HBwa.out hb5
    have hpt5:=HPt.out.below hb5
    obtain ⟨m0,m1⟩:=HbB.out w5 hb5
    by_cases hq0:Q=0
    ·have t2:(Q != 0)=false:=by rw [hq0]; rfl
     obtain ⟨j1,j2,j3⟩:=row_back (cs:=#[.slice FA en fc,.slice PA pn pc]) hbw5 (by rw [HR.out]; exact Nat.le_refl _) hk5
     have hpt6:=hpt5.row HRlt.out #[.slice FA en fc,.slice PA pn pc]
     obtain ⟨FA2,fc2,PA2,pc2,e1,e2,hin,hfi⟩:=hpt6.formIn
     have hres:ReadOut s.data.toList w (.returned (.tuple #[.agg #[.slice FA en fc,.slice PA pn pc],.int .i64 0,.int .i64 0])) (w5.setRow R #[.slice FA en fc,.slice PA pn pc]):=by
      injection e1 with a1 a2 a3
      injection e2 with b1 b2 b3
      subst a1 a3 b1 b3
      refine ⟨j2,.inr (.inr ⟨by rw [HLn.out]; have:=HB20.out; omega,by rw [HRd.out],es,ps,FA,fc,PA,pc,by rw [HRd.out],by rw [HRd.out],hin,hfi,?_⟩)⟩
      rw [HQ.out,if_pos hq0,HEn.out,HPn.out]
     have HJ1:=Lib.hid j1
     have HRes:=Lib.hid hres
     clear j1 j2 j3 hq0 hpt6 hpt5 e1 e2 hin hfi hres hb5 hbw5
     go_wp2_with (refine wpList_store_row rfl 29 _ _ rfl R #[.slice FA en fc,.slice PA pn pc] rfl rfl 29 _ hk5 (by kernel_rfl) rfl (by simp [Value.oneCell']) ?_)
     obtain ⟨y0,y1⟩:=row_cells HJ1.out
     refine bodyPost_ret (v:=.tuple #[.agg #[.slice FA en fc,.slice PA pn pc],.int .i64 0,.int .i64 0]) (by simp [results,Tryz.results8,go_sem,y0]) rfl HRes.out
    ·have t2:(Q != 0)=true:=bne_iff_ne.2 hq0
     obtain ⟨j1,j2,j3⟩:=row_back (cs:=#[.slice none 0 0,.slice none 0 0]) hbw5 (by rw [HR.out]; exact Nat.le_refl _) hk5
     have hpt6:=hpt5.row HRlt.out #[.slice none 0 0,.slice none 0 0]
     obtain ⟨FA2,fc2,PA2,pc2,e1,e2,hin,hfi⟩:=hpt6.formIn
     have hres:ReadOut s.data.toList w (.returned (.tuple #[.agg #[.slice none 0 0,.slice none 0 0],.int .i64 0,.int .i64 Q])) (w5.setRow R #[.slice none 0 0,.slice none 0 0]):=by
      refine ⟨j2,.inr (.inr ⟨by rw [HLn.out]; have:=HB20.out; omega,by rw [HRd.out],es,ps,FA2,fc2,PA2,pc2,by rw [HRd.out],by rw [HRd.out],hin,hfi,?_⟩)⟩
      rw [HQ.out,if_neg hq0]
      rfl
     have HJ1:=Lib.hid j1
     have HRes:=Lib.hid hres
     clear j1 j2 j3 hq0 hpt6 hpt5 e1 e2 hin hfi hres hb5 hbw5
     go_wp2_with (refine wpList_store_row rfl 29 _ _ rfl R #[.slice none 0 0,.slice none 0 0] rfl rfl 29 _ hk5 (by kernel_rfl) rfl (by simp [Value.oneCell']) ?_)
     obtain ⟨y0,y1⟩:=row_cells HJ1.out
     refine bodyPost_ret (v:=.tuple #[.agg #[.slice none 0 0,.slice none 0 0],.int .i64 0,.int .i64 Q]) (by simp [results,Tryz.results8,go_sem,y0]) rfl HRes.out
end Go.Proofs.YtjhhmdmmllblhaaGreatDoor.TxU
namespace Go.Proofs
open Go.Shelf
def Tryz.laysNm222_ren:Go.Shelf.Ren:=⟨fun | 22 => 10 | 29 => 25 | 30 => 26 | 36 => 42 | 17 => 67 | n => n,fun | 24 => 31 | 9 => 9 | 3 => 3 | 4 => 4 | 0 => 0 | n => n,fun | n => n⟩
theorem Tryz.laysNm222:Go.Proofs.Lays2.n22 Tryz.prog Tryz.laysNm222_ren:={
 mixed:=by kernel_rfl
 f17:=Tryz.func67.trans (congrArg some (by kernel_rfl))
 f22:=Tryz.func10.trans (congrArg some (by kernel_rfl))
 f29:=Tryz.func25.trans (congrArg some (by kernel_rfl))
 f30:=Tryz.func26.trans (congrArg some (by kernel_rfl))
 f36:=Tryz.func42.trans (congrArg some (by kernel_rfl))
 t0:=Tryz.underlying0
 a0:=Tryz.isAgg0
 z0:=Tryz.sizeOf0
 v0:=Tryz.zeroValue0
 t3:=Tryz.underlying3
 a3:=Tryz.isAgg3
 z3:=Tryz.sizeOf3
 v3:=Tryz.zeroValue3
 t4:=Tryz.underlying4
 a4:=Tryz.isAgg4
 z4:=Tryz.sizeOf4
 v4:=Tryz.zeroValue4
 t9:=Tryz.underlying9
 a9:=Tryz.isAgg9
 z9:=Tryz.sizeOf9
 v9:=Tryz.zeroValue9
 t24:=Tryz.underlying31
 a24:=Tryz.isAgg31
 z24:=Tryz.sizeOf31
 v24:=Tryz.zeroValue31
 i9:=by kernel_rfl }
end Go.Proofs
namespace Go.Proofs.YtjhhmdmmllblhaaGreatDoor.TxI
open Go.RowKit
open Kit FrmT
set_option linter.unusedVariables false
def insL (cs:List Value) (k:Nat) (v:Value):List Value:=cs.take k ++ (v :: cs.drop k)
theorem insL_at {cs:List Value} {k j:Nat} {v:Value} (hk:k < cs.length):(insL cs k v)[j]?=if j < k then cs[j]? else if j=k then some v else cs[j - 1]?:=by
 unfold insL
 have hl:(cs.take k).length=k:=by rw [List.length_take]; omega
 by_cases h1:j < k
 ·rw [if_pos h1,List.getElem?_append_left (by omega),List.getElem?_take,if_pos h1]
 ·rw [if_neg h1,List.getElem?_append_right (by omega),hl]
  by_cases h2:j=k
  ·subst h2; rw [if_pos rfl,Nat.sub_self]; rfl
  ·rw [if_neg h2,show j - k=(j - k - 1) + 1 by omega,List.getElem?_cons_succ,List.getElem?_drop]
   congr 1; omega
theorem shift_at {w:World} {b k n:Nat} {cs:List Value} {v:Value} (hn:cs.length=n) (hk:k < n) (hc:∀ j,j < n->w.cell? ⟨b,j,none⟩=cs[j]?) (hsp:∀ j,j < n + 1->(w.cell? ⟨b,j,none⟩).isSome=true) (j:Nat) (hj:j < n + 1) :
  ((w.setCells b (k + 1) (cs.drop k)).setCells b k [v]).cell? ⟨b,j,none⟩=(insL cs k v)[j]?:=by
 rw [insL_at (by omega)]
 have hdl:(cs.drop k).length=n - k:=by rw [List.length_drop]; omega
 have hs1:∀ i,i < (cs.drop k).length->(w.cell? ⟨b,k + 1 + i,none⟩).isSome=true:=fun i hi => hsp _ (by omega)
 by_cases h1:j < k
 ·rw [if_pos h1,World.cell?_setCells_out b _ _ _ _ (fun _ _ => .inl h1),World.cell?_setCells_out b _ _ _ _ (fun _ _ => .inl (by show j < k + 1; omega))]
  exact hc j (by omega)
 ·rw [if_neg h1]
  by_cases h2:j=k
  ·subst h2
   rw [if_pos rfl]
   have:=World.cell?_setCells_in b [v] j (w.setCells b (j + 1) (cs.drop j)) (fun i hi => by
    obtain rfl:i=0:=by simp at hi; omega
    rw [World.cell?_setCells_out b _ _ _ _ (fun _ _ => .inl (by show j + 0 < j + 1; omega))]
    exact hsp _ (by omega)) 0 (by simp)
   simpa using this
  ·rw [if_neg h2,World.cell?_setCells_out b _ _ _ _ (fun _ _ => .inr (by show k + 1<=j; omega))]
   have:=World.cell?_setCells_in b (cs.drop k) (k + 1) w hs1 (j - (k + 1)) (by omega)
   rw [show k + 1 + (j - (k + 1))=j by omega] at this
   rw [this,List.getElem_drop,List.getElem?_eq_getElem (show j - 1 < cs.length by omega)]
   congr 2; omega
theorem grow_at {w:World} {b k n:Nat} {cs:List Value} {v:Value} (hn:cs.length=n) (hk:k < n) (hc:∀ j,j < k->w.cell? ⟨b,j,none⟩=cs[j]?) (hsp:∀ j,j < n + 1->(w.cell? ⟨b,j,none⟩).isSome=true) (j:Nat) (hj:j < n + 1) :
  (((w.setCells b k [v]).drew).setCells b (k + 1) (cs.drop k)).cell? ⟨b,j,none⟩=(insL cs k v)[j]?:=by
 rw [insL_at (by omega)]
 have hdl:(cs.drop k).length=n - k:=by rw [List.length_drop]; omega
 have hd:∀ p,((w.setCells b k [v]).drew).cell? p=(w.setCells b k [v]).cell? p:=fun _ => rfl
 have hs1:∀ i,i < (cs.drop k).length->(((w.setCells b k [v]).drew).cell? ⟨b,k + 1 + i,none⟩).isSome=true:=fun i hi => by
  rw [hd,World.cell?_setCells_out b _ _ _ _ (fun _ _ => .inr (by show k + 1<=k + 1 + i; omega))]
  exact hsp _ (by omega)
 by_cases h1:j < k
 ·rw [if_pos h1,World.cell?_setCells_out b _ _ _ _ (fun _ _ => .inl (by show j < k + 1; omega)),hd,World.cell?_setCells_out b _ _ _ _ (fun _ _ => .inl h1)]
  exact hc j h1
 ·rw [if_neg h1]
  by_cases h2:j=k
  ·subst h2
   rw [if_pos rfl,World.cell?_setCells_out b _ _ _ _ (fun _ _ => .inl (by show j < j + 1; omega)),hd]
   have:=World.cell?_setCells_in b [v] j w (fun i hi => by
    obtain rfl:i=0:=by simp at hi; omega
    exact hsp _ (by omega)) 0 (by simp)
   simpa using this
  ·rw [if_neg h2]
   have:=World.cell?_setCells_in b (cs.drop k) (k + 1) _ hs1 (j - (k + 1)) (by omega)
   rw [show k + 1 + (j - (k + 1))=j by omega] at this
   rw [this,List.getElem_drop,List.getElem?_eq_getElem (show j - 1 < cs.length by omega)]
   congr 2; omega
theorem heap_other (g:Nat) (vs:List Value):∀ (o:Nat) (w:World) (b:Nat),b ≠ g->(w.setCells g o vs).heap[b]?=w.heap[b]?:=by
 induction vs with
 | nil => exact fun _ _ _ _ => rfl
 | cons v r ih => exact fun o w b hb => (ih (o + 1) (w.setCell ⟨g,o,none⟩ v) b hb).trans (Below.heap_setCell w ⟨g,o,none⟩ v b hb)
def InsOut (L:List ByteArray) (k:Nat) (s:ByteArray) (b:Nat) (w:World) (e:Ending) (w':World):Prop :=
 ∃ b' c':Nat,e=.returned (.slice (some ⟨b',0,none⟩) (L.length + 1) c')/\L.length + 1<=c'/\c'<=maxLen/\b' < w'.heap.size/\(∀ j x,(L.take k ++ (s :: L.drop k))[j]?=some x->w'.cell? ⟨b',j,none⟩=some (.string x))/\(∀ B,B<=b->Below B w w')/\∀ q,q < w.heap.size->q ≠ b->w'.heap[q]?=w.heap[q]?
theorem insL_map (L:List ByteArray) (k:Nat) (s:ByteArray):insL (L.map Value.string) k (.string s)=(L.take k ++ (s :: L.drop k)).map Value.string:=by
 unfold insL
 rw [List.map_append,List.map_cons,List.map_take,List.map_drop]
theorem insert_any (b c k v:Nat) (L:List ByteArray) (s:ByteArray) (cur:Array Value) (w:World) (hcur:w.heap[b]?=some (.cells cur 9 (0,0))) (hcs:cur.size=c) (hcm:c<=maxLen) (hLc:L.length<=c) (htake:cur.toList.take L.length=L.map Value.string) (hk:k < L.length) (hbig:L.length<=1000000)
  (hv:w.heap[v]?=some (.cells #[.string s] 9 (0,0))) (hvb:v ≠ b) :
  Calls Tryz.prog 10 #[.slice (some ⟨b,0,none⟩) L.length c,.int .i64 k,.slice (some ⟨v,0,none⟩) 1 1] w (InsOut L k s b w):=by
 have hbl:b < w.heap.size:=(Array.getElem?_eq_some_iff.1 hcur).1
 have hml:maxLen=140737488355328 ∨ maxLen<=9223372036854775807:=by first | exact .inl rfl | exact .inr (by decide)
 have hcb:∀ o,w.cell? ⟨b,o,none⟩=cur[o]?:=fun o => cell_blk hcur o
 have hcv:∀ o,w.cell? ⟨v,o,none⟩=(#[Value.string s]:Array Value)[o]?:=fun o => cell_blk hv o
 have hlen:(L.map Value.string).length=L.length:=List.length_map _
 have hrow:∀ j,j < L.length->w.cell? ⟨b,j,none⟩=(L.map Value.string)[j]?:=fun j hj => by
  rw [hcb,← htake,List.getElem?_take,if_pos hj,Array.getElem?_toList]
 have hsp:∀ j,j < c->(w.cell? ⟨b,j,none⟩).isSome=true:=fun j hj => by rw [hcb,Array.getElem?_eq_getElem (by omega)]; rfl
 have h1c:∀ x ∈ L.map Value.string,x.oneCell'=true:=fun x hx => by obtain ⟨t,_,rfl⟩:=List.mem_map.1 hx; rfl
 have h1v:∀ x ∈ [Value.string s],x.oneCell'=true:=fun x hx => by
  obtain rfl:x=.string s:=by simpa using hx
  rfl
 have hvs:∀ j x,[Value.string s][j]?=some x->w.cell? ⟨v,0 + j,none⟩=some x:=fun j x h => by
  obtain rfl:j=0:=by have:=(List.getElem?_eq_some_iff.1 h).1; simp at this; omega
  rw [hcv]; exact h
 by_cases hroom:L.length + 1<=c
 ·refine (Any2.slices_Insert_string_shift Tryz.laysNm222 b 0 L.length c k v 0 1 1 (L.map Value.string) [.string s] w hk (by decide) hroom (by unfold maxLen at hcm; omega) hvb hlen rfl (fun j x h => by
    rw [Nat.zero_add,hrow j (by have:=List.getElem?_eq_some_iff.1 h; have:=this.1; rw [hlen] at this; exact this)]; exact h)
   (fun j hj => by rw [Nat.zero_add]; exact hsp j (by omega)) (fun j hj => by simp [World.frozen?,hcur]) hvs h1c h1v 9 9 1 cur.size (by simp [World.shape?,hv]) (by simp [World.shape?,hcur]) (by omega) (by simp [World.frozen?,hv]) (by simp [World.frozen?,hv])).mono ?_
  rintro e w' ⟨rfl,rfl⟩
  refine ⟨b,c,rfl,hroom,hcm,?_,fun j x h => ?_,fun B hB => ?_,fun q _ hq => ?_⟩
  ·have:=(below_setCells (Nat.zero_le b) [.string s] (0 + k) _ (below_setCells (Nat.zero_le b) ((L.map Value.string).drop k) (0 + (k + 1)) _ (b_drew (Below.refl 0 w)))).size
   omega
  ·have hj:j < L.length + 1:=by
    have:=(List.getElem?_eq_some_iff.1 h).1
    simp only [List.length_append,List.length_cons,List.length_take,List.length_drop] at this
    omega
   rw [Nat.zero_add,Nat.zero_add]
   have:=shift_at (w:=w.drew) (b:=b) (v:=.string s) hlen hk hrow (fun j hj => hsp j (by omega)) j hj
   rw [this,insL_map,List.getElem?_map,h]; rfl
  ·exact below_setCells hB _ _ _ (below_setCells hB _ _ _ (b_drew (Below.refl B w)))
  ·rw [heap_other b _ _ _ q hq,heap_other b _ _ _ q hq]; rfl
 ·have hc0:c=L.length:=by omega
  refine (Any2.slices_Insert_string_grow Tryz.laysNm222 b 0 L.length c k v 0 1 1 (L.map Value.string) [.string s] w hk (by decide) hLc (by omega) (by omega) hlen rfl (fun j x h => by
    rw [Nat.zero_add,hrow j (by have:=List.getElem?_eq_some_iff.1 h; have:=this.1; rw [hlen] at this; exact this)]; exact h)
   hvs h1c h1v).mono ?_
  rintro e w' ⟨rfl,hw'⟩
  obtain ⟨cc,hcc⟩:∃ cc,grownCap w (L.length + 1) c 9=cc:=⟨_,rfl⟩
  have hge:=grownCap_ge w (L.length + 1) c 9
  have hle:=grownCap_le_maxLen w (L.length + 1) c 9 (by unfold maxLen; omega)
  rw [hcc] at hge hle
  obtain ⟨o,ho,hoz,hot⟩:∃ o:Array Value,w'=((((w.alloc (.cells o 9)).drew).setCells w.heap.size k [.string s]).drew).setCells w.heap.size (k + 1) ((L.map Value.string).drop k)/\o.size=cc/\∀ j,j < k->o[j]?=(L.map Value.string)[j]?:=by
   refine ⟨_,hw',?_,fun j hj => ?_⟩
   ·have:grownCap w (L.length + 1) c 9=cc:=hcc
    simp only [Array.size_append,List.size_toArray,size_zeroCells,Value.cells,List.length_take,hlen]
    show min k L.length + _ * 1 + (grownCap w (L.length + 1) c 9 - _) * 1=cc
    rw [this]; omega
   ·rw [Array.getElem?_append_left (by simp only [Array.size_append,List.size_toArray,List.length_take,hlen]; omega),Array.getElem?_append_left (by rw [List.size_toArray,List.length_take,hlen]; omega),List.getElem?_toArray,List.getElem?_take,if_pos hj]
  have hnew:∀ p,(w.alloc (.cells o 9)).drew.cell? ⟨w.heap.size,p,none⟩=o[p]?:=fun p => cell_blk (W:=(w.alloc (.cells o 9)).drew) (World.alloc_heap_new w _) p
  have hb':∀ B,B<=w.heap.size->Below B w w':=fun B hB => by
   rw [ho]
   exact below_setCells hB _ _ _ (b_drew (below_setCells hB _ _ _ (b_drew ((b_new w _).mono hB))))
  refine ⟨w.heap.size,cc,by rw [← hcc]; rfl,hge,hle,?_,fun j x h => ?_,fun B hB => hb' B (by omega),fun q hq _ => ?_⟩
  ·have h1:=(below_setCells (Nat.zero_le w.heap.size) ((L.map Value.string).drop k) (k + 1) _ (b_drew (below_setCells (Nat.zero_le w.heap.size) [.string s] k _ (b_drew (Below.refl 0 (w.alloc (.cells o 9))))))).size
   rw [World.size_alloc] at h1
   rw [ho]; omega
  ·have hj:j < L.length + 1:=by
    have:=(List.getElem?_eq_some_iff.1 h).1
    simp only [List.length_append,List.length_cons,List.length_take,List.length_drop] at this
    omega
   rw [ho,grow_at (n:=L.length) hlen hk (fun j hj => by rw [hnew]; exact hot j hj) (fun j hj => by rw [hnew,Array.getElem?_eq_getElem (by omega)]; rfl) j hj,insL_map,List.getElem?_map,h]; rfl
  ·exact (hb' w.heap.size (Nat.le_refl _)).block q hq
end Go.Proofs.YtjhhmdmmllblhaaGreatDoor.TxI
namespace Go.Proofs.YtjhhmdmmllblhaaGreatDoor.TxT
open Go.RowKit
open ExM ExL TxR TxM FrmM
theorem FormOk.belowF {w V:World} {es:List FE} {ps:List PE} {X:Nat->Ex} (h:FormOk w es ps X) (hb:Below w.heap.size w V):FormOk V es ps X:=⟨fun i hi => (h.fi i hi).below hb,fun i hi => (h.pi i hi).below hb,h.src,h.fields,h.pages⟩
end Go.Proofs.YtjhhmdmmllblhaaGreatDoor.TxT
namespace Go.Proofs.YtjhhmdmmllblhaaGreatDoor.TxV
open Go.RowKit
open ValM LexM NumM ExM NmM ShowM PrM Ty Kit ExL ExP ExN ExC RawV Within RawL RawN GenL Gen GenT GenV FrmM Frm FldP FldR FldC FrmT FrmO TyM PgM PgA PgF RkM RkA RkD RkO RkS RkK CycO RkY ShT ShE TxM TxR TxP TxT TxQ TxN TxF TxG TxD TxU TxK TxI KpS PsE PrU
set_option linter.unusedVariables false
def ErrOut (ls:List (List UInt8)) (er0:Int) (at':Int->Prop) (w:World) (e:Ending) (w':World):Prop :=
 Below w.heap.size w w'/\∃ kl er:Int,e=.returned (.tuple #[zeroFm,.int .i64 kl,.int .i64 er])/\er ≠ 0/\((er=er0/\at' kl) ∨ ∃ l ∈ ls,160 < l.length)
theorem pls_map (l:List PE):pls l=(l.map plE).map (·.1):=by unfold pls; rw [List.map_map]; rfl
theorem twice_map {α β:Type} (f:α->β) (l:List α) (k:Nat) (h:k < l.length):(twice l k h).map f=twice (l.map f) k (by rw [List.length_map]; exact h):=by
 unfold twice
 rw [List.map_append,List.map_cons,List.map_take,List.map_drop,List.getElem_map]
theorem twice_read {w w':World} {es:List FE} {ps:List PE} {e:Ending} {l:List UInt8} (hok:FormOk w es ps (xOf es)) (hrk:rankE (es.map FE.fd) (xOf es)=0) (h10:es.length<=10) (h4:ps.length<=4) (k:Nat) (hk:k < (linesF (es.map flE) (ps.map plE)).length)
  (hl:Lib.split l [10]=(linesF (es.map flE) (ps.map plE)).take k ++ ((linesF (es.map flE) (ps.map plE))[k] :: (linesF (es.map flE) (ps.map plE)).drop k)) (h:ReadOut l w e w') :
  ErrOut (linesF (es.map flE) (ps.map plE)) 6 (fun _ => True) w e w':=by
 obtain ⟨hb,h⟩:=h
 refine ⟨hb,?_⟩
 have hn:(linesF (es.map flE) (ps.map plE)).length=es.length + ps.length:=by unfold linesF; simp
 have hlen:(Lib.split l [10]).length<=20:=by rw [hl]; simp; omega
 by_cases hf:k < es.length
 ·have hkF:k < (es.map flE).length:=by rw [List.length_map]; exact hf
  rw [lines_twiceF (es.map flE) (ps.map plE) k hkF] at hl
  rw [hl] at h hlen
  rcases hok.twiceF k hkF with hr | ⟨hr,hlong⟩
  ·rcases h with ⟨h1,_⟩ | ⟨_,h2,_⟩ | ⟨_,_,es',ps',FA,fc,PA,pc,e1,e2,hin,hfi,rfl⟩
   ·omega
   ·rw [hr] at h2; exact absurd rfl h2
   ·rw [hr] at e1
    have hc:=check_twice e1 hok.fi hfi hok.src (srcs_xE es') (by omega) hok.fields
    have hfe:formE (es'.map FE.fd) (xE es') ps'=6:=by
     have hr6:rankE (es'.map FE.fd) (xE es')=6:=by unfold rankE; rw [hc,if_neg (by decide)]
     unfold formE
     rw [hr6,if_neg (by decide)]
    rw [hfe,if_neg (by decide)]
    exact ⟨_,_,rfl,by decide,.inl ⟨rfl,trivial⟩⟩
  ·rcases h with ⟨h1,_⟩ | ⟨_,h2,rfl⟩ | ⟨_,h2,_⟩
   ·omega
   ·exact ⟨_,_,rfl,h2,.inr hlong⟩
   ·rw [hr] at h2; exact absurd h2 (by decide)
 ·obtain ⟨j,rfl⟩:∃ j,k=es.length + j:=⟨k - es.length,by omega⟩
  have hkP:j < (ps.map plE).length:=by rw [List.length_map]; omega
  have hlt:=lines_twiceP (es.map flE) (ps.map plE) j hkP
  simp only [List.length_map] at hlt
  rw [hlt] at hl
  rw [hl] at h hlen
  rcases hok.twiceP j hkP with hr | ⟨hr,hlong⟩
  ·rcases h with ⟨h1,_⟩ | ⟨_,h2,_⟩ | ⟨_,_,es',ps',FA,fc,PA,pc,e1,e2,hin,hfi,rfl⟩
   ·omega
   ·rw [hr] at h2; exact absurd rfl h2
   ·rw [hr] at e1 e2
    have e1:es'.map flE=es.map flE:=e1
    have hjp:j < ps.length:=by omega
    have e2':pls (twice ps j hjp)=pls ps':=by
     rw [e2,pls_map,twice_map]
    have hpp:PIs' w' ps':=fun i hi => (hin.ok _ (List.getElem_mem hi)).skip
    have hpt:PIs' w (twice ps j hjp):=fun i hi => by
     obtain ⟨m,hm,e⟩:=List.getElem_of_mem (twice_mem (List.getElem_mem hi))
     rw [← e]
     exact hok.pi m hm
    have hp:=pls_of (w:=w) (w':=w') (ps:=twice ps j hjp) (ps':=ps') e2' hpt hpp
    rw [twice_map] at hp
    have hc:=checkP_twice e1.symm hp.symm (by omega) hok.pages
    have hr0:rankE (es'.map FE.fd) (xE es')=0:=by rw [← rank_same e1.symm hok.fi hfi hok.src (srcs_xE es')]; exact hrk
    have hfe:formE (es'.map FE.fd) (xE es') ps'=6:=by
     unfold formE
     rw [if_pos hr0]
     exact hc
    rw [hfe,if_neg (by decide)]
    exact ⟨_,_,rfl,by decide,.inl ⟨rfl,trivial⟩⟩
  ·rcases h with ⟨h1,_⟩ | ⟨_,h2,rfl⟩ | ⟨_,h2,_⟩
   ·omega
   ·exact ⟨_,_,rfl,h2,.inr hlong⟩
   ·rw [hr] at h2; exact absurd h2 (by decide)
theorem what_read {w w':World} {es:List FE} {ps:List PE} {e:Ending} {l:List UInt8} (hok:FormOk w es ps (xOf es)) (h10:es.length<=10) (h4:ps.length<=4) (k:Nat) (hk:k < (linesF (es.map flE) (ps.map plE)).length)
  (hl:Lib.split l [10]=(linesF (es.map flE) (ps.map plE)).take k ++ ([119,104,97,116] :: (linesF (es.map flE) (ps.map plE)).drop k)) (h:ReadOut l w e w') :
  ErrOut (linesF (es.map flE) (ps.map plE)) 3 (fun kl => kl=(k:Int) + 1) w e w':=by
 obtain ⟨hb,h⟩:=h
 refine ⟨hb,?_⟩
 have hn:(linesF (es.map flE) (ps.map plE)).length=es.length + ps.length:=by unfold linesF; simp
 have hlen:(Lib.split l [10]).length<=20:=by rw [hl]; simp; omega
 rw [hl] at h hlen
 have hne:(rdAll pfR ((linesF (es.map flE) (ps.map plE)).take k ++ ([119,104,97,116] :: (linesF (es.map flE) (ps.map plE)).drop k))).1.2 ≠ 0 :=
  rd_any_bad _ 0 ([],[]) [119,104,97,116] (by simp) fun pg => by rw [what_bad]; decide
 rcases h with ⟨h1,_⟩ | ⟨_,h2,rfl⟩ | ⟨_,h2,_⟩
 ·omega
 ·refine ⟨_,_,rfl,h2,?_⟩
  by_cases hlong:∃ l ∈ linesF (es.map flE) (ps.map plE),160 < l.length
  ·exact .inr hlong
  ·left
   have hF:∀ f ∈ es.map flE,1 < f.k->pfR (Ex.txt f.x)=(f.x,0):=fun f hf hk => pf_fine (hok.fl.2 f hf hk) (by
    refine Nat.le_trans (fl_len hk) (Nat.le_of_not_lt fun hh => hlong ⟨flL f,?_,hh⟩)
    unfold linesF
    exact List.mem_append.2 (.inl (List.mem_map.2 ⟨f,hf,rfl⟩)))
   have hP:∀ p ∈ ps.map plE,p.2=true->pfR (Ex.txt p.1.x)=(p.1.x,0):=fun p hp hk => pf_fine (hok.pl.2 p hp hk) (by
    refine Nat.le_trans (pl_len hk) (Nat.le_of_not_lt fun hh => hlong ⟨plL p,?_,hh⟩)
    unfold linesF
    exact List.mem_append.2 (.inr (List.mem_map.2 ⟨p,hp,rfl⟩)))
   have:=rd_what (pf:=pfR) (es.map flE) (ps.map plE) hok.fl.1 hok.pl.1 hF hP k (by rw [List.length_map,List.length_map]; omega) (bad:=[119,104,97,116]) (e:=3) (by decide) (fun pg => what_bad pfR pg) ((linesF (es.map flE) (ps.map plE)).drop k)
   rw [this]
   exact ⟨rfl,by simp⟩
 ·exact absurd h2 hne
theorem form_ne {w:World} {es:List FE} {ps:List PE} {X:Nat->Ex} (h:FormOk w es ps X):formL es ps ≠ []:=fun e => by
 have hs:=h.split
 rw [e] at hs
 have h0:Lib.split [] [10]=[[]]:=by rfl
 rw [h0] at hs
 have hp:=h.few.2.1
 have hm:plL (plE ps[0]) ∈ linesF (es.map flE) (ps.map plE):=by
  unfold linesF
  exact List.mem_append.2 (.inr (List.mem_map.2 ⟨plE ps[0],List.mem_map.2 ⟨_,List.getElem_mem _,rfl⟩,rfl⟩))
 rw [← hs] at hm
 have:plL (plE ps[0])=[]:=by simpa using hm
 unfold plL pageL at this
 simp at this
def RowAt (W:World) (b c:Nat) (cur:Array Value) (L:List ByteArray):Prop:=W.heap[b]?=some (.cells cur 9 (0,0))/\cur.size=c/\c<=maxLen/\L.length<=c/\cur.toList.take L.length=L.map Value.string
theorem RowAt.below {W V:World} {b c:Nat} {cur:Array Value} {L:List ByteArray} (h:RowAt W b c cur L) (hb:Below W.heap.size W V):RowAt V b c cur L:=⟨(hb.block b (Array.getElem?_eq_some_iff.1 h.1).1).trans h.1,h.2⟩
def CloneOut (L:List ByteArray) (V:World) (e:Ending) (w':World):Prop :=
 ∃ (b c:Nat) (cur:Array Value),e=.returned (.slice (some ⟨b,0,none⟩) L.length c)/\V.heap.size<=b/\b < w'.heap.size/\RowAt w' b c cur L/\Below V.heap.size V w'
theorem clone_any (G:Nat) (L:List ByteArray) (W:World) (h0:0 < L.length) (hn:L.length<=1000000) (hc:∀ (k:Nat) (h:k < L.length),W.cell? ⟨G,k,none⟩=some (.string L[k])) :
  Calls Tryz.prog 11 #[.slice (some ⟨G,0,none⟩) L.length L.length] W (CloneOut L W):=by
 refine (Tryz.slices_Clone_string G 0 L.length L.length L W (Nat.le_refl _) (by omega) (fun j hj => ?_)).mono ?_
 ·rw [Nat.zero_add,hc j hj,List.getD_eq_getElem?_getD,List.getElem?_eq_getElem hj]; rfl
 ·rintro e w' ⟨v',rfl,hown,hne,hb⟩
  rw [List.take_length] at hown
  rcases hown.2 with ⟨h1,h2⟩ | ⟨g,cap,cur,h1,hg,hcl,h4,h5,hsz,htk⟩
  ·exact absurd h1 hne
  ·subst h1
   refine ⟨g,cap,cur,rfl,hg,(Array.getElem?_eq_some_iff.1 hcl).1,⟨hcl,by omega,h5,h4,?_⟩,hb⟩
   simpa using htk
theorem insert_at {L:List ByteArray} {k b c v:Nat} {s:ByteArray} {cur:Array Value} {V:World} (hrow:RowAt V b c cur L) (hk:k < L.length) (hn:L.length<=1000000) (hv:V.heap[v]?=some (.cells #[.string s] 9 (0,0))) (hvb:v ≠ b) :
  Calls Tryz.prog 10 #[.slice (some ⟨b,0,none⟩) L.length c,.int .i64 k,.slice (some ⟨v,0,none⟩) 1 1] V (InsOut L k s b V) :=
 insert_any b c k v L s cur V hrow.1 hrow.2.1 hrow.2.2.1 hrow.2.2.2.1 hrow.2.2.2.2 hk hn hv hvb
def insB (L:List ByteArray) (k:Nat) (s:ByteArray):List ByteArray:=L.take k ++ (s :: L.drop k)
theorem insB_len (L:List ByteArray) (k:Nat) (s:ByteArray) (hk:k < L.length):(insB L k s).length=L.length + 1:=by unfold insB; simp; omega
theorem split_ins {ls:List (List UInt8)} (hn:∀ l ∈ ls,(10:UInt8) ∉ l) {x:List UInt8} (hx:(10:UInt8) ∉ x) (k:Nat):Lib.split (joinN (ls.take k ++ (x :: ls.drop k))) [10]=ls.take k ++ (x :: ls.drop k):=by
 have hall:∀ p ∈ ls.take k ++ (x :: ls.drop k),(10:UInt8) ∉ p:=fun p hp => by
  rcases List.mem_append.1 hp with hp | hp
  ·exact hn p (List.mem_of_mem_take hp)
  ·rcases List.mem_cons.1 hp with rfl | hp
   ·exact hx
   ·exact hn p (List.mem_of_mem_drop hp)
 cases hl:ls.take k ++ (x :: ls.drop k) with
 | nil => simp at hl
 | cons a r =>
  rw [hl] at hall
  exact lines_back a r hall
theorem join_ins {L:List ByteArray} {k b c:Nat} {s U:ByteArray} {V:World} (hk:k < L.length) (hn:L.length<=1000000) (hU:(⟨(Lib.join ((insB L k s).map (·.data.toList)) [10]).toArray⟩:ByteArray)=U) (hs:U.size<=1000000) (hb:b < V.heap.size) (hc:L.length + 1<=c) (hcells:∀ j x,(L.take k ++ (s :: L.drop k))[j]?=some x->V.cell? ⟨b,j,none⟩=some (.string x)) :
  Calls Tryz.prog 9 #[.slice (some ⟨b,0,none⟩) (L.length + 1) c,.string ⟨#[10]⟩] V fun e w' => e=.returned (.string U)/\Below V.heap.size V w':=by
 have hl:=insB_len L k s hk
 have h:=Tryz.strings_Join b 0 c (insB L k s) ⟨#[10]⟩ V (fun j x hj => by rw [Nat.zero_add]; exact hcells j x hj) hb (by omega) (by omega) (by
  have:U.size=(Lib.join ((insB L k s).map (·.data.toList)) [10]).length:=by rw [← hU,← ValM.len_size]
  show (Lib.join ((insB L k s).map (·.data.toList)) [10]).length<=_
  omega)
 rw [hl] at h
 refine h.mono fun e w' h => ?_
 rw [← hU]
 exact h
def RowC (W:World) (b:Nat) (L:List ByteArray):Prop:=b < W.heap.size/\∀ j x,L[j]?=some x->W.cell? ⟨b,j,none⟩=some (.string x)
theorem RowC.below {W V:World} {b:Nat} {L:List ByteArray} (h:RowC W b L) (hb:Below W.heap.size W V):RowC V b L:=⟨Nat.lt_of_lt_of_le h.1 hb.size,fun j x hj => (hb.cell (p:=⟨b,j,none⟩) h.1).trans (h.2 j x hj)⟩
theorem RowC.more {W:World} {b:Nat} {L:List ByteArray} (h:RowC W b L) (o:Obj):RowC (W.alloc o) b L:=h.below (b_new W o)
def LongL (L:List ByteArray):Prop:=∃ (j:Nat) (h:j < L.length),160 < L[j].size
def BadOut (L:List ByteArray) (er0:Int) (at':Int->Prop) (V:World) (e:Ending) (w':World):Prop :=
 ∃ kl er:Int,e=.returned (.tuple #[zeroFm,.int .i64 kl,.int .i64 er])/\er ≠ 0/\((er=er0/\at' kl) ∨ LongL L)/\Below V.heap.size V w'
def JoinP (v:World) (L:List ByteArray) (n k:Nat) (s U:ByteArray):Prop :=
 ∀ (V:World) (b c:Nat),RowC V b (L.take k ++ (s :: L.drop k))->n + 1<=c->Calls Tryz.prog 9 #[.slice (some ⟨b,0,none⟩) (n + 1:Nat) c,.string ⟨#[10]⟩] V fun e w' => e=.returned (.string U)/\Below V.heap.size V w'
structure TurnF (v:World) (L:List ByteArray) (n k:Nat) (ln U1 U2:ByteArray):Prop where
 at':∀ h:k < L.length,L[k]=ln
 r1:∀ V,Below v.heap.size v V->Calls Tryz.prog 8 #[.string U1] V (BadOut L 6 (fun _ => True) V)
 r2:∀ V,Below v.heap.size v V->Calls Tryz.prog 8 #[.string U2] V (BadOut L 3 (fun kl => kl=(k:Int) + 1) V)
 cl:∀ (G:Nat) (V:World),(∀ (j:Nat) (h:j < L.length),V.cell? ⟨G,j,none⟩=some (.string L[j]))->Calls Tryz.prog 11 #[.slice (some ⟨G,0,none⟩) n n] V fun e w' => ∃ (b c:Nat) (cur:Array Value),e=.returned (.slice (some ⟨b,0,none⟩) n c)/\V.heap.size<=b/\b < w'.heap.size/\RowAt w' b c cur L/\Below V.heap.size V w'
 ins:∀ (s:ByteArray) (V:World) (b c v:Nat) (cur:Array Value),RowAt V b c cur L->V.heap[v]?=some (.cells #[.string s] 9 (0,0))->v ≠ b->Calls Tryz.prog 10 #[.slice (some ⟨b,0,none⟩) n c,.int .i64 k,.slice (some ⟨v,0,none⟩) 1 1] V fun e w' => ∃ b' c':Nat,e=.returned (.slice (some ⟨b',0,none⟩) (n + 1:Nat) c')/\n + 1<=c'/\RowC w' b' (L.take k ++ (s :: L.drop k))/\(∀ B,B<=b->Below B V w')/\∀ q,q < V.heap.size->q ≠ b->w'.heap[q]?=V.heap[q]?
 j1:JoinP v L n k ln U1
 j2:JoinP v L n k ⟨#[119,104,97,116]⟩ U2
theorem err_bad {V w':World} {e:Ending} {L:List ByteArray} {ls:List (List UInt8)} {er0:Int} {p:Int->Prop} (hLf:L.map (fun t => t.data.toList)=ls) (h:ErrOut ls er0 p V e w'):BadOut L er0 p V e w':=by
 obtain ⟨hb,kl,er,rfl,h0,h1⟩:=h
 refine ⟨kl,er,rfl,h0,?_,hb⟩
 rcases h1 with h1 | ⟨l,hl,hlt⟩
 ·exact .inl h1
 ·right
  rw [← hLf] at hl
  obtain ⟨t,ht,rfl⟩:=List.mem_map.1 hl
  obtain ⟨j,hj,rfl⟩:=List.getElem_of_mem ht
  exact ⟨j,hj,hlt⟩
theorem turn_facts {v:World} {es:List FE} {ps:List PE} (hok:FormOk v es ps (xOf es)) (hrk:rankE (es.map FE.fd) (xOf es)=0) (hn10:es.length<=10) (hp4:ps.length<=4) (hRV:RVars v) {L:List ByteArray} (hLf:L.map (fun t => t.data.toList)=linesF (es.map flE) (ps.map plE)) {n k:Nat} (hn:L.length=n) (hkn:k < n):∃ ln U1 U2,TurnF v L n k ln U1 U2:=by
 have hkL:k < L.length:=by omega
 have hL20:L.length<=14:=by
  have:=congrArg List.length hLf
  rw [List.length_map] at this
  rw [this]; unfold linesF; simp; omega
 have hins:∀ s:ByteArray,(insB L k s).map (fun t => t.data.toList)=(linesF (es.map flE) (ps.map plE)).take k ++ (s.data.toList :: (linesF (es.map flE) (ps.map plE)).drop k):=fun s => by
  rw [← hLf]
  unfold insB
  rw [List.map_append,List.map_cons,List.map_take,List.map_drop]
 have hsz:∀ (s U:ByteArray),s.size<=6300->(⟨(Lib.join ((insB L k s).map (·.data.toList)) [10]).toArray⟩:ByteArray)=U->U.size<=1000000:=fun s U hs hU => by
  rw [← hU,← ValM.len_size]
  show (Lib.join ((insB L k s).map (·.data.toList)) [10]).length<=_
  rw [join_lines]
  have h1:=joinN_len ((insB L k s).map (·.data.toList)) 6300 (fun x hx => by
   rw [hins s] at hx
   rcases List.mem_append.1 hx with hx | hx
   ·exact hok.line x (List.mem_of_mem_take hx)
   ·rcases List.mem_cons.1 hx with rfl | hx
    ·rw [ValM.len_size]; exact hs
    ·exact hok.line x (List.mem_of_mem_drop hx))
  rw [List.length_map,insB_len L k s hkL] at h1
  have:(L.length + 1) * 6301<=15 * 6301:=Nat.mul_le_mul_right _ (by omega)
  omega
 have hkl:k < (linesF (es.map flE) (ps.map plE)).length:=by rw [← hLf,List.length_map]; exact hkL
 have hlk:(linesF (es.map flE) (ps.map plE))[k]=L[k].data.toList:=by
  simp only [← hLf,List.getElem_map]
 have hlnS:L[k].size<=6300:=by
  rw [← ValM.len_size,← hlk]
  exact hok.line _ (List.getElem_mem _)
 obtain ⟨U1,hU1⟩:∃ U,(⟨(Lib.join ((insB L k L[k]).map (·.data.toList)) [10]).toArray⟩:ByteArray)=U:=⟨_,rfl⟩
 obtain ⟨U2,hU2⟩:∃ U,(⟨(Lib.join ((insB L k ⟨#[119,104,97,116]⟩).map (·.data.toList)) [10]).toArray⟩:ByteArray)=U:=⟨_,rfl⟩
 have hz1:=hsz L[k] U1 hlnS hU1
 have hz2:=hsz ⟨#[119,104,97,116]⟩ U2 (by decide) hU2
 refine ⟨L[k],U1,U2,fun _ => rfl,fun V hV => ?_,fun V hV => ?_,fun G V hc => ?_,fun s V b c v cur h1 h2 h3 => ?_,fun V b c h3 h4 => ?_,fun V b c h3 h4 => ?_⟩
 ·refine (read_any U1 V hz1 (hRV.below hV)).mono fun e w' h => ?_
  refine err_bad hLf (twice_read (hok.belowF hV) hrk hn10 hp4 k hkl ?_ h)
  rw [← hU1]
  show Lib.split (Lib.join ((insB L k L[k]).map (·.data.toList)) [10]) [10]=_
  rw [join_lines,hins L[k],← hlk]
  exact split_ins (fun l hl => hok.nofeed l hl) (hok.nofeed _ (List.getElem_mem _)) k
 ·refine (read_any U2 V hz2 (hRV.below hV)).mono fun e w' h => ?_
  refine err_bad hLf (what_read (hok.belowF hV) hn10 hp4 k hkl ?_ h)
  rw [← hU2]
  show Lib.split (Lib.join ((insB L k ⟨#[119,104,97,116]⟩).map (·.data.toList)) [10]) [10]=_
  rw [join_lines,hins ⟨#[119,104,97,116]⟩]
  exact split_ins (fun l hl => hok.nofeed l hl) (by decide) k
 ·have h:=clone_any G L V (by omega) (by omega) hc
  unfold CloneOut at h
  rw [hn] at h
  exact h
 ·have h:=insert_at h1 hkL (by omega) h2 h3
  unfold InsOut at h
  rw [hn] at h
  exact h.mono fun e w' ⟨b',c',a1,a2,a3,a4,a5,a6,a7⟩ => ⟨b',c',a1,a2,⟨a4,a5⟩,a6,a7⟩
 ·have h:=join_ins hkL (by omega) hU1 hz1 h3.1 (show L.length + 1<=c by omega) h3.2
  rw [hn] at h
  exact h
 ·have h:=join_ins hkL (by omega) hU2 hz2 h3.1 (show L.length + 1<=c by omega) h3.2
  rw [hn] at h
  exact h
def At1 (W:World) (v:Nat) (s:ByteArray):Prop:=W.heap[v]?=some (.cells #[.string s] 9 (0,0))
theorem At1.new (W:World) (s:ByteArray):At1 (W.alloc (.cells #[.string s] 9)) W.heap.size s:=World.alloc_heap_new W _
theorem At1.lt {W:World} {v:Nat} {s:ByteArray} (h:At1 W v s):v < W.heap.size:=(Array.getElem?_eq_some_iff.1 h).1
theorem At1.below {W V:World} {v:Nat} {s:ByteArray} (h:At1 W v s) (hb:Below W.heap.size W V):At1 V v s:=(hb.block v h.lt).trans h
theorem At1.more {W:World} {v:Nat} {s:ByteArray} (h:At1 W v s) (o:Obj):At1 (W.alloc o) v s:=h.below (b_new W o)
theorem At1.drew {W:World} {v:Nat} {s:ByteArray} (h:At1 W v s):At1 W.drew v s:=h
theorem At1.at_ (W:World) (s:ByteArray) (H:Nat) (h:H=W.heap.size):At1 (W.alloc (.cells #[.string s] 9)) H s:=by rw [h]; exact At1.new W s
def AtF (W:World) (v:Nat):Prop:=W.heap[v]?=some (.cells #[.slice none 0 0,.slice none 0 0] 29 (0,0))
theorem AtF.new (W:World):AtF (W.alloc (.cells #[.slice none 0 0,.slice none 0 0] 29)) W.heap.size:=World.alloc_heap_new W _
theorem AtF.lt {W:World} {v:Nat} (h:AtF W v):v < W.heap.size:=(Array.getElem?_eq_some_iff.1 h).1
theorem AtF.below {W V:World} {v:Nat} (h:AtF W v) (hb:Below W.heap.size W V):AtF V v:=(hb.block v h.lt).trans h
theorem AtF.more {W:World} {v:Nat} (h:AtF W v) (o:Obj):AtF (W.alloc o) v:=h.below (b_new W o)
theorem AtF.drew {W:World} {v:Nat} (h:AtF W v):AtF W.drew v:=h
theorem AtF.cells {W:World} {v:Nat} (h:AtF W v):W.cell? ⟨v,0,none⟩=some (.slice none 0 0)/\W.cell? ⟨v,1,none⟩=some (.slice none 0 0)/\(∀ o,W.frozen? ⟨v,o,none⟩=false)/\v < W.heap.size:=by
 have hl:=h.lt
 unfold AtF at h
 exact ⟨by simp [World.cell?,h],by simp [World.cell?,h],fun o => by simp [World.frozen?,h],hl⟩
theorem RowAt.more {W:World} {b c:Nat} {cur:Array Value} {L:List ByteArray} (h:RowAt W b c cur L) (o:Obj):RowAt (W.alloc o) b c cur L:=h.below (b_new W o)
theorem RowAt.lt {W:World} {b c:Nat} {cur:Array Value} {L:List ByteArray} (h:RowAt W b c cur L):b < W.heap.size:=(Array.getElem?_eq_some_iff.1 h.1).1
theorem form_ne' {W:World} {v b c:Nat} {cur:Array Value} {L:List ByteArray} (h:AtF W v) (hr:RowAt W b c cur L):v ≠ b:=fun e => by
 subst e
 have h1:=hr.1
 unfold AtF at h
 rw [h] at h1
 injection h1 with h1
 injection h1 with _ h2
 exact absurd h2 (by decide)
theorem AtF.ins {W V:World} {v b c:Nat} {cur:Array Value} {L:List ByteArray} (h:AtF W v) (hr:RowAt W b c cur L) (hk:∀ q,q < W.heap.size->q ≠ b->V.heap[q]?=W.heap[q]?):AtF V v:=(hk v h.lt (form_ne' h hr)).trans h
theorem b_set2 {a U:World} {B K:Nat} (h:Below B a U) (hK:B<=K) (x y:Value):Below B a ((U.setCell ⟨K,0,none⟩ x).setCell ⟨K,1,none⟩ y):=(h.setCell (p:=⟨K,0,none⟩) hK x).setCell (p:=⟨K,1,none⟩) hK y
end Go.Proofs.YtjhhmdmmllblhaaGreatDoor.TxV
