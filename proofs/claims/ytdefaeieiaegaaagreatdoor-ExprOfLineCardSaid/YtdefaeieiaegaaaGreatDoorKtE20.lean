/- TxRun: what these laws name of them. -/
import Derived.Deep.AppendLies
import Derived.Deep.CutBlock
import Derived.Deep.DeepCutAuto
import Derived.RegionTactic
import Derived.Laws.Tables
import Derived.Laws.Rows
import Derived.Laws.CopyOwn
import Derived.Deep.RegionHeld3
import Derived.IntWalk
import Derived.RangeFuncNested
import Derived.RangeFuncBound
import Derived.RangeFuncCalls
import Derived.RangeFuncLeaves
import Derived.Shelf.Abstract
import Derived.Shelf.RegionOpen
import Derived.WalkKit
import Derived.OwnWalkIn
import Derived.TacticsInMore
import Derived.LoopNIn
import Derived.LoopIn
import Derived.Deep.QuietTactic
import Derived.Deep.RegionWith
import Derived.ChangeOld
import Derived.Deep.DrawnRows
import Derived.LaidMore
import Derived.BigQuiet
import Derived.RangeFuncBox
import Derived.Test.YtdefaeieiaegaaaGreatDoorProg
import Derived.ProofKit
import Derived.Lib.Hide
import Derived.Outline
import Derived.Below
import Derived.WalkSpells
import Derived.WalkLawsBesides
import Derived.Laws.OwnMore
import Derived.OwnWalk
import Derived.ChangeAlike
import GoSem.Claim
import Derived.Lib.Bytealg
import Derived.Lib.Small
import Derived.Lib.AtoiAll
import Derived.Deep.Draws
import Derived.LaidLaws
import Derived.ChangeArms
import Derived.Lib.LaidTab
import Derived.WideShapes
import Derived.Test.YtdefaeieiaegaaaGreatDoorChecked
import Derived.WalkSmall
import Derived.Deep.RegionLaw
import Derived.BigRegion
import Derived.Laws.Pointers
import Derived.Lib.ConvBytes
import Derived.Lib.AtoiErrMem
import Derived.Laws.IdiomStrings
import Derived.Deep.LoopGhost
import Derived.Lib.UnsafeStr
import Derived.Lib.ItoaNum
import Derived.Lib.AtoiTie
import Derived.Lib.ItoaMem
import Derived.Lib.AppendIntMem
import Derived.Lib.ItoaLen
import Derived.Shelf.Strings.Builder1
import Derived.Shelf.Strings.Builder2
import Derived.Shelf.Strings.OnBuilder
import Derived.Shelf.Small.Bits
import Derived.Shelf.Small.Wraps
import Derived.Shelf.Strings.BuilderF
import Derived.Shelf.Strings.BuilderK
import Derived.Shelf.Strconv.Atoi
import Derived.Shelf.Strconv.Itoa0
import Derived.Shelf.Strconv.Itoa1
import Derived.Shelf.LaysM
import Derived.Shelf.Strconv.Itoa2
import Derived.Shelf.Strconv.Itoa3
import Derived.Shelf.Strconv.AtoiErrFast
import Derived.Shelf.Strconv.ParseIntEmpty
import Derived.Shelf.Strconv.AtoiFail
import Derived.Shelf.Strconv.Clone
import Derived.Shelf.Strconv.SyntaxError
import Derived.Shelf.LaysC
import Derived.Shelf.Strconv.ToError
import Derived.Shelf.Strconv.Lower
import Derived.Shelf.Strconv.ParseUint10
import Derived.Shelf.Strconv.ParseUint10Empty
import Derived.Shelf.Strconv.ParseUint10Any
import Derived.Shelf.Strconv.ParseInt10
import Derived.Shelf.Strconv.AtoiLong
import Derived.Shelf.Strconv.AtoiInnerAll
import Derived.Shelf.Strconv.RangeError
import Derived.Shelf.Strconv.ToErrorRange
import Derived.Shelf.Strconv.AtoiAll
import Derived.Shelf.Strconv.ErrVarAll
import Derived.Shelf.Strings.Search1
import Derived.Shelf.Strings.Search2
import Derived.Shelf.Strings.Search3
import Derived.Shelf.Strings.Cut
import Derived.Shelf.Strings.Count
import Derived.Shelf.Strings.Shaped
import Derived.Shelf.Strings.Prefix
import Derived.Shelf.Strings.Split
import Derived.Shelf.Bits.Mul64
import Derived.Shelf.Unicode.DecodeSlow
import Derived.Shelf.Slices.Turned
import Derived.Shelf.Slices.Equal
import Derived.Ground.Names2Prog
import Derived.Shelf.Slices.Clone
import Derived.Shelf.Slices.Empties2
import Derived.Ground.SlgfProg
import Derived.Shelf.SlicesE.IndexFunc
import Derived.Ground.SlgmProg
import Derived.Shelf.SortM.Plain
import Derived.Shelf.SortM.SortNone
import Derived.Lib.IndexMore
import Derived.Lib.Split
import Derived.Lib.Strings
import Derived.Lib.ReplaceLaws
import Derived.Lib.CountLaws
import Derived.Maps.Own
import Derived.Maps.OwnSet
import Derived.Maps.AppendAt
import Derived.Maps.Range
import Derived.Maps.RangeWalk
import Derived.Laws.AppendOwnNone
import Derived.Sort.EncStr
import Derived.StringKeys
import Derived.Lib.SplitLaws
import Derived.RangeFuncRecord
import Derived.Calls
import Derived.Orders
import Derived.OrdersHeld
import Derived.RangeFuncWrites
import Derived.Maps.OwnIn
import Derived.Shelf.SlIter.Nil
import Derived.Ground.GgzProg
import Derived.Tactics
import Derived.Tactics2
import Derived.Defers
import Derived.Recover
import Derived.RegionDies
import Derived.Test.YtdefaeieiaegaaaGreatDoorKtE19
namespace Go.Proofs.YtdefaeieiaegaaaGreatDoor
set_option linter.unusedVariables false
namespace TxU
open Go.RowKit
open ValM LexM NumM ExM NmM ShowM PrM Kit ExL ExP ExN RawV Within RawL GenL FldP FldR FldC FrmM NmA PgM PgA ShT ShE TxM TxR TxP TxT Prn TxQ TxW TxN TxF TxG TxL TxD PsR PsD PsE PrU
set_option linter.unusedVariables false
def xE (es:List FE) (k:Nat):Ex:=(es[k]?.map FE.x).getD noX
theorem xE_at {es:List FE} {k:Nat} (h:k < es.length):xE es k=es[k].x:=by unfold xE; rw [List.getElem?_eq_getElem h]; rfl
theorem srcs_xE (es:List FE):Srcs (xE es) es:=fun i h => xE_at h
theorem pgs_of {w:World} {base:Nat} {v:Value} {ps:List PE} (h:w.ownsRow base 59 8 v ps.length (peC ps)):∃ A c,v=.slice A ps.length c/\Pgs w A ps:=by
 rcases Nat.eq_zero_or_pos ps.length with h0 | h0
 ·obtain ⟨A,c,e⟩:=GenL.own_slice h
  exact ⟨A,c,e,fun i hi => absurd hi (by omega)⟩
 ·obtain ⟨g,cap,e,_,_,_,_,hc⟩:=GenL.own_form h h0
  refine ⟨_,cap,e,fun i hi => ⟨_,rfl,?_⟩⟩
  have hq:∀ j,j < 8->w.cell? ⟨g,i * 8 + j,none⟩=(pgC ps[i])[j]?:=fun j hj => by rw [hc _ (by omega),peC_at ps i j hi hj]
  rw [add_block]
  exact ⟨hq 0 (by decide),hq 1 (by decide),hq 2 (by decide),hq 3 (by decide),hq 4 (by decide),hq 5 (by decide),hq 6 (by decide),hq 7 (by decide)⟩
theorem trow_of {P:Nat->Prop} {w:World} {A:Option Addr} {l:List ByteArray} (h:StrP P w A l):TRow w A l:=fun j hj => by
 obtain ⟨a,e,_,hc⟩:=h j hj
 exact ⟨a,e,hc⟩
structure Parts (base:Nat) (es:List FE) (ps:List PE) (u v:Value) (wr:World):Prop where
 ownF:wr.ownsRow base 55 9 u es.length (feC es)
 ownP:wr.ownsRow base 59 8 v ps.length (peC ps)
 isF:∀ e ∈ es,IsP (fun b => base<=b) wr e.x e.x.d e.B e.m
 isP:∀ e ∈ ps,StrP (fun b => base<=b) wr e.F e.fs/\IsP (fun b => base<=b) wr e.x e.x.d e.B e.m
 bdF:∀ e ∈ es,e.nm.size<=2000000/\e.x.nodes<=160
 bdP:∀ e ∈ ps,PgBd e
 few:es.length + ps.length<=1000
theorem LnI.parts {w:World} {B:Nat} {es:List FE} {ps:List PE} {u v:Value} {wr:World} (h:LnI w B es ps u v wr) (hf:es.length + ps.length<=1000):Parts w.heap.size es ps u v wr :=
 ⟨h.ownF,h.ownP,fun e he => IsP.keep (fun _ _ _ => rfl) (fun b hb _ => hb.1) _ _ _ _ (h.isF e he),fun e he => ⟨(h.isP e he).1.keep (fun _ _ _ => rfl) (fun b hb _ => hb.1),IsP.keep (fun _ _ _ => rfl) (fun b hb _ => hb.1) _ _ _ _ (h.isP e he).2⟩,h.bdF,h.bdP,hf⟩
theorem Parts.below {base:Nat} {es:List FE} {ps:List PE} {u v:Value} {wr w':World} (h:Parts base es ps u v wr) (hb:Below wr.heap.size wr w'):Parts base es ps u v w' :=
 ⟨own_below h.ownF hb,own_below h.ownP hb,fun e he => (h.isF e he).below hb,fun e he => ⟨(h.isP e he).1.keep (fun b _ hl => hb.block b hl) (fun _ hp _ => hp),(h.isP e he).2.below hb⟩,h.bdF,h.bdP,h.few⟩
theorem Parts.row {base:Nat} {es:List FE} {ps:List PE} {u v:Value} {wr:World} (h:Parts base es ps u v wr) {R:Nat} (hR:R < base) (cs:Array Value):Parts base es ps u v (wr.setRow R cs):=by
 have hg:wr.grownBy (wr.setRow R cs) (some R):=⟨rfl,rfl,rfl,by simp [World.setRow],fun k _ hne => setRow_other wr R k cs (fun e => hne (by rw [e]))⟩
 refine ⟨World.ownsRow.kept h.ownF hg ?_,World.ownsRow.kept h.ownP hg ?_,fun e he => isP_row (h.isF e he) (fun b hb => by omega),fun e he => ⟨(h.isP e he).1.keep (fun b hb _ => setRow_other wr R b cs (by omega)) (fun _ hp _ => hp),isP_row (h.isP e he).2 (fun b hb => by omega)⟩,h.bdF,h.bdP,h.few⟩
 ·cases ho:u.ownBlock with
  | none => exact .inl rfl
  | some g => right; intro e; injection e with e; have:=(h.ownF.lt g ho).1; omega
 ·cases ho:v.ownBlock with
  | none => exact .inl rfl
  | some g => right; intro e; injection e with e; have:=(h.ownP.lt g ho).1; omega
theorem Parts.formIn {base:Nat} {es:List FE} {ps:List PE} {u v:Value} {wr:World} (h:Parts base es ps u v wr):∃ FA fc PA pc,u=.slice FA es.length fc/\v=.slice PA ps.length pc/\FormIn (es.map FE.fd) (xE es) FA fc ps PA pc wr/\FIs wr es:=by
 have hfew:=h.few
 obtain ⟨FA,fc,rfl,hfl⟩:=own_flds h.ownF rfl
 obtain ⟨PA,pc,rfl,hpg⟩:=pgs_of h.ownP
 have hl:(es.map FE.fd).length=es.length:=List.length_map _
 have hu:=h.ownF
 have hv:=h.ownP
 rw [hl] at hu
 have c1:=TxG.own_cap hu
 have c2:=TxG.own_cap hv
 refine ⟨FA,fc,PA,pc,by rw [hl],rfl,⟨by rw [hl]; omega,hfl,fun k hk => ?_,fun k hk => ?_,by rw [hl]; exact c1,hpg,fun e he => ?_,c2,by omega,fun e he => ⟨?_,?_⟩⟩,fun i hi => (h.isF _ (List.getElem_mem hi)).is⟩
 ·rw [hl] at hk
  have hm:=List.getElem_mem hk
  rw [List.getElem_map,xE_at hk]
  exact ⟨by have:=(h.bdF _ hm).1; show es[k].nm.size<=_; unfold maxLen; omega,(h.isF _ hm).is⟩
 ·rw [hl] at hk
  rw [xE_at hk]
  have:=(h.bdF _ (List.getElem_mem hk)).2
  omega
 ·have hb:=h.bdP e he
  exact ⟨by have:=hb.nm; unfold maxLen; omega,trow_of (h.isP e he).1,fun s hs => by have:=hb.txt s hs; unfold maxLen; omega,Nat.le_trans hb.cap.1 hb.cap.2,(h.isP e he).2.is⟩
 ·have:=(h.bdP e he).len; omega
 ·have:=(h.bdP e he).nodes; omega
def zeroFm:Value:=.agg #[.slice none 0 0,.slice none 0 0]
/-- What Read hands back. -/
def ReadOut (l : List UInt8) (w : World) (e : Ending) (w' : World) : Prop :=
  Below w.heap.size w w' ∧ ((20 < (Lib.split l [10]).length ∧ e = .returned (.tuple #[zeroFm, .int .i64 0, .int .i64 1])) ∨
    ((Lib.split l [10]).length ≤ 20 ∧ (rdAll pfR (Lib.split l [10])).1.2 ≠ 0 ∧ e = .returned (.tuple #[zeroFm, .int .i64 (rdAll pfR (Lib.split l [10])).1.1, .int .i64 (rdAll pfR (Lib.split l [10])).1.2])) ∨
    ((Lib.split l [10]).length ≤ 20 ∧ (rdAll pfR (Lib.split l [10])).1.2 = 0 ∧ ∃ (es : List FE) (ps : List PE) (FA : Option Addr) (fc : Nat) (PA : Option Addr) (pc : Nat), es.map flE = (rdAll pfR (Lib.split l [10])).2.1 ∧ pls ps = (rdAll pfR (Lib.split l [10])).2.2 ∧
      FormIn (es.map FE.fd) (xE es) FA fc ps PA pc w' ∧ FIs w' es ∧ e = .returned (if formE (es.map FE.fd) (xE es) ps = 0 then .tuple #[.agg #[.slice FA es.length fc, .slice PA ps.length pc], .int .i64 0, .int .i64 0] else .tuple #[zeroFm, .int .i64 0, .int .i64 (formE (es.map FE.fd) (xE es) ps)])))
theorem count_any (s:ByteArray) (w:World) (hs:s.size<=2000000) (hm:Mx w):Calls Tryz.prog 31 #[.string s,.string ⟨#[10]⟩] w fun e w' => e=.returned (.int .i64 (Lib.countB s ⟨#[10]⟩))/\w=w':=by
 obtain ⟨m,hm⟩:=hm
 exact (Tryz.strings_Count_any s ⟨#[10]⟩ m w (by omega) hm (by decide)).mono fun e w' h => ⟨h.1,h.2.symm⟩
def SplitOut (L:List ByteArray) (w:World) (e:Ending) (w':World):Prop :=
 ∃ G,e=.returned (.slice (some ⟨G,0,none⟩) L.length L.length)/\w.heap.size<=G/\G < w'.heap.size/\(∀ (k:Nat) (h:k < L.length),w'.cell? ⟨G,k,none⟩=some (.string L[k]))/\Below w.heap.size w w'
theorem split_lines (s:ByteArray):∃ L:List ByteArray,L.map (fun t => t.data.toList)=Lib.split s.data.toList [10]/\L.length=Lib.countB s ⟨#[10]⟩ + 1/\∀ (w:World),s.size<=2000000->Mx w->Calls Tryz.prog 16 #[.string s,.string ⟨#[10]⟩] w (SplitOut L w):=by
 have hlen:=Lib.splitB_all ⟨#[10]⟩ (by decide) 0 _ s rfl
 refine ⟨Lib.splitB ⟨#[10]⟩ 0 (Lib.countB s ⟨#[10]⟩) s,Lib.splitB_data ⟨#[10]⟩ 0 _ s,hlen,fun w hs hm => ?_⟩
 obtain ⟨m,hm⟩:=hm
 refine (Tryz.strings_Split s ⟨#[10]⟩ m w (by omega) hm (by decide)).mono fun e w' h => ?_
 obtain ⟨rfl,rfl⟩:=h
 refine ⟨w.heap.size,by rw [hlen],Nat.le_refl _,by simp,fun k hk => ?_,b_new _ _⟩
 rw [row_new]
 rw [List.getElem?_toArray,List.getElem?_map,List.getElem?_eq_getElem hk]
 rfl
theorem piece_le (sep:List UInt8):∀ (L:List (List UInt8)) (a:List UInt8),a ∈ L->a.length<=(joinS sep L).length
 | [],a,h => by cases h
 | [b],a,h => by simp at h; subst h; exact Nat.le_refl _
 | b :: c :: r,a,h => by
  show a.length<=(b ++ (sep ++ joinS sep (c :: r))).length
  rw [List.length_append,List.length_append]
  rcases List.mem_cons.1 h with rfl | h
  ·omega
  ·have:=piece_le sep (c :: r) a h
   omega
theorem rd_step {ls:List (List UInt8)} {k:Nat} {l:List UInt8} {r r2:List Fl × List Pl} (hk:k < ls.length) (hl:ls[k]=l) (h:rdAll pfR ls=rdFrom pfR k r (ls.drop k)) (h1:(rdLine pfR (decide (r.2 ≠ [])) l).1=0) (h2:r2=addL r (rdLine pfR (decide (r.2 ≠ [])) l).2):rdAll pfR ls=rdFrom pfR (k + 1) r2 (ls.drop (k + 1)):=by
 rw [h,List.drop_eq_getElem_cons hk,hl,rd_ok (o:=(rdLine pfR (decide (r.2 ≠ [])) l).2) (Prod.ext h1 rfl),h2]
theorem rd_stop {ls:List (List UInt8)} {k:Nat} {l:List UInt8} {r:List Fl × List Pl} {er:Int} (hk:k < ls.length) (hl:ls[k]=l) (h:rdAll pfR ls=rdFrom pfR k r (ls.drop k)) (h1:(rdLine pfR (decide (r.2 ≠ [])) l).1=er) (h2:er ≠ 0):(rdAll pfR ls).1=(k + 1,er):=by
 rw [h,List.drop_eq_getElem_cons hk,hl,rd_bad (o:=(rdLine pfR (decide (r.2 ≠ [])) l).2) (Prod.ext h1 rfl) h2]
set_option maxRecDepth 100000 in
set_option maxHeartbeats 16000000 in
theorem read_any (s:ByteArray) (w:World) (hs:s.size<=1000000) (hv:RVars w):Calls Tryz.prog 10 #[.string s] w (ReadOut s.data.toList w):=by
 obtain ⟨L,hLs,hLl,hsp⟩:=split_lines s
 have hLn:(Lib.split s.data.toList [10]).length=L.length:=by rw [← hLs,List.length_map]
 have hsz:∀ (k:Nat) (h:k < L.length),L[k].size<=1000000:=fun k hk => by
  have hj:=splitK_join [10] (by simp) (Lib.count s.data.toList [10]) s.data.toList
  have h1:Lib.splitK [10] 0 (Lib.count s.data.toList [10]) s.data.toList=L.map (fun t => t.data.toList):=hLs.symm
  rw [h1] at hj
  have:=piece_le [10] (L.map (fun t => t.data.toList)) L[k].data.toList (List.mem_map.2 ⟨L[k],List.getElem_mem hk,rfl⟩)
  rw [hj] at this
  exact Nat.le_trans this hs
 obtain ⟨W1,hW1⟩:∃ V,w.alloc (.cells #[.slice none 0 0,.slice none 0 0] 25)=V:=⟨_,rfl⟩
 obtain ⟨R,hR⟩:∃ B,w.heap.size=B:=⟨_,rfl⟩
 have hb1:Below w.heap.size w W1:=by rw [← hW1]; exact b_new _ _
 have hk1:W1.heap[R]?=some (.cells #[.slice none 0 0,.slice none 0 0] 25 (0,0)):=by rw [← hW1,← hR]; exact World.alloc_heap_new w _
 have hbox:∀ V,Below W1.heap.size W1 V->V.heap[R]?=some (.cells #[.slice none 0 0,.slice none 0 0] 25 (0,0)):=fun V hV => (hV.block _ (Array.getElem?_eq_some_iff.1 hk1).1).trans hk1
 have hR1:R < W1.heap.size:=(Array.getElem?_eq_some_iff.1 hk1).1
 have hcnt:=count_any s W1 (by omega) (hv.below hb1).mx
 have hcl:(Lib.countB s ⟨#[10]⟩:Int)=(L.length:Int) - 1:=by omega
 have HW1:=Lib.hid hW1
 have HR:=Lib.hid hR
 have HB1:=Lib.hid hb1
 have HBox:=Lib.hid hbox
 have HR1:=Lib.hid hR1
 have HV:=Lib.hid hv
 have HLs:=Lib.hid hLs
 have HLn:=Lib.hid hLn
 have HSz:=Lib.hid hsz
 have HS:=Lib.hid hs
 have HSp:=Lib.hid hsp
 rw [hcl] at hcnt
 have HCnt:=Lib.hid hcnt
 clear hW1 hR hb1 hbox hR1 hv hLs hLn hsz hs hsp hcnt hcl hk1
 have hpos:1<=L.length:=by omega
 by_cases h20:20 < L.length
 ·have t1:(20:Int)<=(L.length:Int) - 1:=by omega
  have HB20:=Lib.hid h20
  have hk2:=HBox.out W1 (Below.refl _ _)
  obtain ⟨j1,j2,j3⟩:=row_back (cs:=#[.slice none 0 0,.slice none 0 0]) HB1.out (by rw [HR.out]; exact Nat.le_refl _) hk2
  have HJ1:=Lib.hid j1
  have HJ2:=Lib.hid j2
  clear j1 j2 j3 h20 hLl
  go_enter Tryz.func10,Tryz.ntmps10
  go_upto_region 1 with fail
  rw [HW1.out,HR.out]
  go_wp2_with fail
  refine HCnt.out.mono ?_; rintro e w2 ⟨rfl,rfl⟩
  go_wp2_with (refine wpList_store_row rfl 25 _ _ rfl R #[.slice none 0 0,.slice none 0 0] rfl rfl 25 _ hk2 (by kernel_rfl) rfl (by simp [Value.oneCell']) ?_)
  obtain ⟨y0,y1⟩:=row_cells HJ1.out
  refine bodyPost_ret (v:=.tuple #[.agg #[.slice none 0 0,.slice none 0 0],.int .i64 0,.int .i64 1]) (by simp [results,Tryz.results10,go_sem,y0]) rfl ⟨HJ2.out,.inl ⟨by rw [HLn.out]; exact HB20.out,rfl⟩⟩
 ·have t1:¬ (20:Int)<=(L.length:Int) - 1:=by omega
  have HB20:=Lib.hid h20
  clear h20 hLl
  obtain ⟨W2,hW2⟩:∃ V,W1.alloc (.cells #[.slice none 0 0,.slice none 0 0] 25)=V:=⟨_,rfl⟩
  obtain ⟨B,hB⟩:∃ B,W1.heap.size=B:=⟨_,rfl⟩
  have hb2:Below W1.heap.size W1 W2:=by rw [← hW2]; exact b_new _ _
  have hk2:W2.heap[B]?=some (.cells #[.slice none 0 0,.slice none 0 0] 25 (0,0)):=by rw [← hW2,← hB]; exact World.alloc_heap_new W1 _
  have hspl:=HSp.out W2 (by have:=HS.out; omega) (HV.out.below (b_trans HB1.out hb2)).mx
  have HSpl:=Lib.hid hspl
  have HW2:=Lib.hid hW2
  have HB:=Lib.hid hB
  have HB2:=Lib.hid hb2
  have HK2:=Lib.hid hk2
  clear hspl hW2 hB hb2 hk2
  go_enter Tryz.func10,Tryz.ntmps10
  go_upto_region 1 with fail
  rw [HW1.out,HR.out]
  go_wp2_with fail
  refine HCnt.out.mono ?_; rintro e w2 ⟨rfl,rfl⟩
  go_upto_region 4 with fail
  rw [HW2.out,HB.out]
  go_wp2_with fail
  refine HSpl.out.mono ?_; rintro e w3 ⟨G,rfl,hG1,hG2,hGc,hb3⟩
  have hkB:w3.heap[B]?=some (.cells #[.slice none 0 0,.slice none 0 0] 25 (0,0)):=(hb3.block B (Array.getElem?_eq_some_iff.1 HK2.out).1).trans HK2.out
  have hst:=LnI.start hkB
  have hb13:Below W1.heap.size W1 w3:=b_trans HB2.out hb3
  have hGB:G ≠ B:=by have h1:=(Array.getElem?_eq_some_iff.1 HK2.out).1; omega
  have hRlt:R < w3.heap.size:=by have h1:=HR1.out; have h2:=hb13.size; omega
  have hRB:R ≠ B:=by have h1:=HR1.out; have h2:=HB.out; omega
  have hge:w.heap.size<=B:=by have h1:=HB.out; have h2:=HB1.out.size; omega
  have hlines:∀ (es:List FE) (ps:List PE) (u v:Value) (wr:World),LnI w3 B es ps u v wr->∀ (k:Nat) (h:k < L.length),wr.cell? ⟨G,k,none⟩=some (.string L[k]):=fun es ps u v wr hI k hk => (World.cell?_of_block (a:=⟨G,k,none⟩) (hI.kp.block G hG2 (fun e => hGB (by injection e)))).trans (hGc k hk)
  have hbelow:∀ (es:List FE) (ps:List PE) (u v:Value) (wr:World),LnI w3 B es ps u v wr->Below w.heap.size w wr/\wr.heap[R]?=some (.cells #[.slice none 0 0,.slice none 0 0] 25 (0,0)):=fun es ps u v wr hI => ⟨hI.below (b_trans HB1.out hb13) hge,(hI.kp.block R hRlt (fun e => hRB (by injection e))).trans (HBox.out w3 hb13)⟩
  have HSt:=Lib.hid hst
  have HLines:=Lib.hid hlines
  have HBelow:=Lib.hid hbelow
  have HRlt:=Lib.hid hRlt
  clear hG1 hG2 hGc hkB hst hb13 hGB hRlt hRB hge hlines hbelow hb3
  obtain ⟨n,hn⟩:∃ n,L.length=n:=⟨_,rfl⟩
  rw [hn] at t1 hpos ⊢
  have HN:=Lib.hid hn
  have hn20:n<=20:=by omega
  clear hn
  go_wp2_with fail
  go_loopw [6,7,8,17] (fun _ _ _ ii wr => ∃ (k:Nat) (es:List FE) (ps:List PE) (u v:Value),ii=.int .i64 k/\k<=n/\LnI w3 B es ps u v wr/\es.length + ps.length<=k/\rdAll pfR (Lib.split s.data.toList [10])=rdFrom pfR k (es.map flE,pls ps) ((Lib.split s.data.toList [10]).drop k)) (fun _ _ _ ii _ => n - (intOf ii).toNat)
  case atStart => exact ⟨0,[],[],_,_,rfl,Nat.zero_le _,HSt.out,Nat.le_refl _,rfl⟩
  case round =>
   obtain ⟨k,es,ps,u,v,rfl,hk,hI,hfew,hrd⟩:=hrel
   obtain ⟨wa,rfl⟩:∃ V,V=wr:=⟨_,rfl⟩
   by_cases hlt:k < n
   ·have hkL:k < L.length:=by have:=HN.out; omega
    have hcell:=HLines.out es ps u v wa hI k hkL
    have hlk:(Lib.split s.data.toList [10])[k]'(by rw [HLn.out]; exact hkL)=L[k].data.toList:=by simp only [← HLs.out,List.getElem_map]
    obtain ⟨ln,hln⟩:∃ ln,L[k]=ln:=⟨_,rfl⟩
    have hlsz:=HSz.out k hkL
    rw [hln] at hcell hlk hlsz
    have hadd:Calls Tryz.prog 32 #[.pointer (some ⟨B,0,none⟩),.string ln] wa (AddOut w3 B es ps ln.data.toList):=by
     by_cases hp:Lib.hasPrefix ln.data.toList pgW=true
     ·exact addPage_any ln w3 B es ps u v wa hI hlsz (HV.out.below (HBelow.out _ _ _ _ _ hI).1) (by omega) hp
     ·exact addField_any ln w3 B es ps u v wa hI hlsz (HV.out.below (HBelow.out _ _ _ _ _ hI).1) (by omega) hp
    have HAdd:=Lib.hid hadd
    have HRd:=Lib.hid hrd
    have HLk:=Lib.hid hlk
    have HFew:=Lib.hid hfew
    clear hadd hrd hlk hlsz hln hfew hI
    go_wp2_with fail
    refine HAdd.out.mono ?_; rintro e w4 ⟨es',ps',u',v',er,rfl,hI',hr1,hr2,hf2⟩
    have hkS:k < (Lib.split s.data.toList [10]).length:=by rw [HLn.out]; exact hkL
    have HI':=Lib.hid hI'
    by_cases her:er=0
    ·have t2:(er != 0)=false:=by rw [her]; rfl
     have HN2:=Lib.hid (rd_step hkS HLk.out HRd.out (by rw [her] at hr1; exact hr1) (hr2 her))
     have HF2:=Lib.hid hf2
     clear her hI' hr1 hr2 hf2
     go_wp2_with fail
     go_roundw
     case rel => exact ⟨k + 1,es',ps',u',v',by go_num,by omega,HI'.out,by have:=HFew.out; have:=HF2.out; omega,HN2.out⟩
     case measure => simp [intOf]; omega
    ·have t2:(er != 0)=true:=bne_iff_ne.2 her
     have hst:=rd_stop hkS HLk.out HRd.out hr1 her
     obtain ⟨hbw4,hk4⟩:=HBelow.out _ _ _ _ _ hI'
     obtain ⟨j1,j2,j3⟩:=row_back (cs:=#[.slice none 0 0,.slice none 0 0]) hbw4 (by rw [HR.out]; exact Nat.le_refl _) hk4
     have HJ1:=Lib.hid j1
     have HJ2:=Lib.hid j2
     have HEr:=Lib.hid her
     have HStop:=Lib.hid hst
     clear j1 j2 j3 her hI' hr1 hr2 hf2 hbw4 hst
     go_wp2_with (refine wpList_store_row rfl 25 _ _ rfl R #[.slice none 0 0,.slice none 0 0] rfl rfl 25 _ hk4 (by kernel_rfl) rfl (by simp [Value.oneCell']) ?_)
     obtain ⟨y0,y1⟩:=row_cells HJ1.out
     refine bodyPost_ret (v:=.tuple #[.agg #[.slice none 0 0,.slice none 0 0],.int .i64 ((k:Int) + 1),.int .i64 er]) (by simp [results,Tryz.results10,go_sem,y0]; try go_num) rfl ⟨HJ2.out,.inr (.inl ⟨by rw [HLn.out]; have:=HB20.out; omega,by rw [HStop.out]; exact HEr.out,by rw [HStop.out]; rfl⟩)⟩
   ·have hkn:k=n:=by omega
    subst hkn
    have hdrop:(Lib.split s.data.toList [10]).drop k=[]:=List.drop_eq_nil_of_le (by rw [HLn.out]; have:=HN.out; omega)
    rw [hdrop] at hrd
    have hrd:rdAll pfR (Lib.split s.data.toList [10])=((0,0),(es.map flE,pls ps)):=hrd
    obtain ⟨hbwa,hka⟩:=HBelow.out _ _ _ _ _ hI
    have hpt:=LnI.parts hI (by omega)
    obtain ⟨FA,fc,PA,pc,rfl,rfl,hin,hfi⟩:=hpt.formIn
    have hck:=ShE.check_any hin (HV.out.below hbwa).tv.pr.tab
    have hl:(es.map FE.fd).length=es.length:=List.length_map _
    rw [hl] at hck
    obtain ⟨r0,r1⟩:=row_cells hI.box
    have k0:wa.cell? ⟨B,0,none⟩=some (.slice FA es.length fc):=by rw [r0]; rfl
    have k1:wa.cell? ⟨B,1,none⟩=some (.slice PA ps.length pc):=by rw [r0]; rfl
    have hBlt:=(Array.getElem?_eq_some_iff.1 hI.box).1
    have hbB:∀ V,Below wa.heap.size wa V->V.cell? ⟨B,0,none⟩=some (.slice FA es.length fc)/\V.cell? ⟨B,1,none⟩=some (.slice PA ps.length pc):=fun V hV => ⟨(hV.cell (p:=⟨B,0,none⟩) hBlt).trans k0,(hV.cell (p:=⟨B,1,none⟩) hBlt).trans k1⟩
    obtain ⟨Q,hQ⟩:∃ Q,formE (es.map FE.fd) (xE es) ps=Q:=⟨_,rfl⟩
    rw [hQ] at hck
    obtain ⟨en,hen⟩:∃ n,es.length=n:=⟨_,rfl⟩
    obtain ⟨pn,hpn⟩:∃ n,ps.length=n:=⟨_,rfl⟩
    rw [hen,hpn] at hbB hck
    rw [hen] at k0
    rw [hpn] at k1
    have HEn:=Lib.hid hen
    have HPn:=Lib.hid hpn
    have HQ:=Lib.hid hQ
    have HCk:=Lib.hid hck
    have HRd:=Lib.hid hrd
    have HPt:=Lib.hid hpt
    have HBwa:=Lib.hid hbwa
    have HKa:=Lib.hid hka
    have HbB:=Lib.hid hbB
    have HRwa:=Lib.hid (Array.getElem?_eq_some_iff.1 hka).1
    clear hrd hdrop hin hfi hck hl r0 r1 hBlt hbB hQ hen hpn hI hfew hpt hbwa hka
    go_wp2_with fail
    refine (HCk.out wa (Below.refl _ _)).mono ?_; rintro e w5 ⟨rfl,hb5⟩
    have hk5:=(hb5.block R HRwa.out).trans HKa.out
    have hbw5:=b_trans HBwa.out hb5
    have hpt5:=HPt.out.below hb5
    obtain ⟨m0,m1⟩:=HbB.out w5 hb5
    by_cases hq0:Q=0
    ·have t2:(Q != 0)=false:=by rw [hq0]; rfl
     obtain ⟨j1,j2,j3⟩:=row_back (cs:=#[.slice FA en fc,.slice PA pn pc]) hbw5 (by rw [HR.out]; exact Nat.le_refl _) hk5
     have hpt6:=hpt5.row HRlt.out #[.slice FA en fc,.slice PA pn pc]
     obtain ⟨FA2,fc2,PA2,pc2,e1,e2,hin,hfi⟩:=hpt6.formIn
     have hres:ReadOut s.data.toList w (.returned (.tuple #[.agg #[.slice FA en fc,.slice PA pn pc],.int .i64 0,.int .i64 0])) (w5.setRow R #[.slice FA en fc,.slice PA pn pc]):=by
      injection e1 with a1 a2 a3
      injection e2 with b1 b2 b3
      subst a1 a3 b1 b3
      refine ⟨j2,.inr (.inr ⟨by rw [HLn.out]; have:=HB20.out; omega,by rw [HRd.out],es,ps,FA,fc,PA,pc,by rw [HRd.out],by rw [HRd.out],hin,hfi,?_⟩)⟩
      rw [HQ.out,if_pos hq0,HEn.out,HPn.out]
     have HJ1:=Lib.hid j1
     have HRes:=Lib.hid hres
     clear j1 j2 j3 hq0 hpt6 hpt5 e1 e2 hin hfi hres hb5 hbw5
     go_wp2_with (refine wpList_store_row rfl 25 _ _ rfl R #[.slice FA en fc,.slice PA pn pc] rfl rfl 25 _ hk5 (by kernel_rfl) rfl (by simp [Value.oneCell']) ?_)
     obtain ⟨y0,y1⟩:=row_cells HJ1.out
     refine bodyPost_ret (v:=.tuple #[.agg #[.slice FA en fc,.slice PA pn pc],.int .i64 0,.int .i64 0]) (by simp [results,Tryz.results10,go_sem,y0]) rfl HRes.out
    ·have t2:(Q != 0)=true:=bne_iff_ne.2 hq0
     obtain ⟨j1,j2,j3⟩:=row_back (cs:=#[.slice none 0 0,.slice none 0 0]) hbw5 (by rw [HR.out]; exact Nat.le_refl _) hk5
     have hpt6:=hpt5.row HRlt.out #[.slice none 0 0,.slice none 0 0]
     obtain ⟨FA2,fc2,PA2,pc2,e1,e2,hin,hfi⟩:=hpt6.formIn
     have hres:ReadOut s.data.toList w (.returned (.tuple #[.agg #[.slice none 0 0,.slice none 0 0],.int .i64 0,.int .i64 Q])) (w5.setRow R #[.slice none 0 0,.slice none 0 0]):=by
      refine ⟨j2,.inr (.inr ⟨by rw [HLn.out]; have:=HB20.out; omega,by rw [HRd.out],es,ps,FA2,fc2,PA2,pc2,by rw [HRd.out],by rw [HRd.out],hin,hfi,?_⟩)⟩
      rw [HQ.out,if_neg hq0]
      rfl
     have HJ1:=Lib.hid j1
     have HRes:=Lib.hid hres
     clear j1 j2 j3 hq0 hpt6 hpt5 e1 e2 hin hfi hres hb5 hbw5
     go_wp2_with (refine wpList_store_row rfl 25 _ _ rfl R #[.slice none 0 0,.slice none 0 0] rfl rfl 25 _ hk5 (by kernel_rfl) rfl (by simp [Value.oneCell']) ?_)
     obtain ⟨y0,y1⟩:=row_cells HJ1.out
     refine bodyPost_ret (v:=.tuple #[.agg #[.slice none 0 0,.slice none 0 0],.int .i64 0,.int .i64 Q]) (by simp [results,Tryz.results10,go_sem,y0]) rfl HRes.out
end TxU
end Go.Proofs.YtdefaeieiaegaaaGreatDoor
