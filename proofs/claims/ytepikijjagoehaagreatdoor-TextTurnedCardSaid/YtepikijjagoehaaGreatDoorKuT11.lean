/- TxOk TxProg StrTab LexTok RkMath: what these laws name of them. -/
import Derived.Lib.IndexMore
import Derived.Lib.Split
import Derived.Lib.Strings
import Derived.Lib.ReplaceLaws
import Derived.Lib.CountLaws
import GoSem.Claim
import Derived.Lib.Bytealg
import Derived.Lib.Small
import Derived.Lib.AtoiAll
import Derived.Lib.AtoiTie
import Derived.Lib.ItoaMem
import Derived.Lib.UnsafeStr
import Derived.Lib.ItoaNum
import Derived.LaidLaws
import Derived.ChangeArms
import Derived.Lib.LaidTab
import Derived.ChangeOld
import Derived.WideShapes
import Derived.RegionTactic
import Derived.BigQuiet
import Derived.Deep.QuietTactic
import Derived.Deep.RegionHeld3
import Derived.Deep.RegionLaw
import Derived.RangeFuncBox
import Derived.Deep.AppendLies
import Derived.OwnWalk
import Derived.Deep.RegionWith
import Derived.BigRegion
import Derived.Laws.OwnMore
import Derived.Laws.Pointers
import Derived.Test.YtepikijjagoehaaGreatDoorChecked
import Derived.WalkKit
import Derived.ProofKit
import Derived.Lib.ConvBytes
import Derived.Lib.AtoiErrMem
import Derived.Laws.IdiomStrings
import Derived.WalkSpells
import Derived.WalkLawsBesides
import Derived.Outline
import Derived.Lib.Hide
import Derived.Deep.LoopGhost
import Derived.Below
import Derived.Deep.Draws
import Derived.Test.YtepikijjagoehaaGreatDoorProg
import Derived.IntWalk
import Derived.ChangeAlike
import Derived.WalkSmall
import Derived.RangeFuncNested
import Derived.RangeFuncBound
import Derived.RangeFuncCalls
import Derived.RangeFuncLeaves
import Derived.Shelf.Abstract
import Derived.Shelf.RegionOpen
import Derived.OwnWalkIn
import Derived.TacticsInMore
import Derived.LoopNIn
import Derived.LoopIn
import Derived.Deep.DrawnRows
import Derived.LaidMore
import Derived.Deep.DeepCutAuto
import Derived.Deep.CutBlock
import Derived.Maps.Own
import Derived.Maps.OwnSet
import Derived.Maps.AppendAt
import Derived.Maps.Range
import Derived.Maps.RangeWalk
import Derived.Laws.AppendOwnNone
import Derived.Sort.EncStr
import Derived.StringKeys
import Derived.Lib.SplitLaws
import Derived.Shelf.Strings.Builder1
import Derived.Shelf.Strings.Builder2
import Derived.Shelf.Strings.OnBuilder
import Derived.Shelf.Small.Bits
import Derived.Shelf.Small.Strs
import Derived.Shelf.Small.Wraps
import Derived.Shelf.Strings.BuilderF
import Derived.Shelf.Strings.BuilderK
import Derived.Shelf.Strconv.Atoi
import Derived.Shelf.Strconv.Itoa0
import Derived.Shelf.Strconv.Itoa1
import Derived.Shelf.LaysM
import Derived.Shelf.Strconv.Itoa2
import Derived.Shelf.Strconv.Itoa3
import Derived.Shelf.Strconv.AtoiErrFast
import Derived.Shelf.Strconv.ParseIntEmpty
import Derived.Shelf.Strconv.AtoiFail
import Derived.Shelf.Strconv.Clone
import Derived.Shelf.Strconv.SyntaxError
import Derived.Shelf.LaysC
import Derived.Shelf.Strconv.ToError
import Derived.Shelf.Strconv.Lower
import Derived.Shelf.Strconv.ParseUint10
import Derived.Shelf.Strconv.ParseUint10Empty
import Derived.Shelf.Strconv.ParseUint10Any
import Derived.Shelf.Strconv.ParseInt10
import Derived.Shelf.Strconv.AtoiLong
import Derived.Shelf.Strconv.AtoiInnerAll
import Derived.Shelf.Strconv.RangeError
import Derived.Shelf.Strconv.ToErrorRange
import Derived.Shelf.Strconv.AtoiAll
import Derived.Shelf.Strconv.ErrVarAll
import Derived.Shelf.Strings.Search1
import Derived.Shelf.Strings.Search2
import Derived.Shelf.Strings.Search3
import Derived.Shelf.Strings.Cut
import Derived.Shelf.Strings.Count
import Derived.Shelf.Strings.Shaped
import Derived.Shelf.Strings.Prefix
import Derived.Shelf.Strings.Split
import Derived.Shelf.Bits.Mul64
import Derived.Shelf.Unicode.DecodeSlow
import Derived.Shelf.Slices.Turned
import Derived.Shelf.Slices.Equal
import Derived.Shelf.Slices.Empties2
import Derived.Ground.SlgfProg
import Derived.Shelf.SlicesE.IndexFunc
import Derived.Ground.SlsfProg
import Derived.Shelf.SlSortCmp.Insertion
import Derived.Ground.SlgmProg
import Derived.Shelf.SortM.Plain
import Derived.Shelf.SortM.SortNone
import Derived.Test.YtepikijjagoehaaGreatDoorKuT01
import Derived.Test.YtepikijjagoehaaGreatDoorKuT02
import Derived.Test.YtepikijjagoehaaGreatDoorKuT05
import Derived.Test.YtepikijjagoehaaGreatDoorKuT06
import Derived.Test.YtepikijjagoehaaGreatDoorKuT07
import Derived.Test.YtepikijjagoehaaGreatDoorKuT10
namespace Go.Proofs.YtepikijjagoehaaGreatDoor
set_option linter.unusedVariables false
namespace TxT
open Go.RowKit
open ValM LexM NumM ExM NmM ShowM PrM Ty Kit ExL ExP ExN ExC RawV Within RawL GenL FrmM FldP FldR FldC TyM PgM TxM TxR
set_option linter.unusedVariables false
theorem fits_check {fs:List (ByteArray × Int)} {x:Ex} {k:Int} (h:fitsT fs x k=0):x.checkE=0:=by
 unfold fitsT ofT at h
 by_cases h1:x.checkE=0
 ·exact h1
 ·rw [if_neg h1] at h
  simp only at h
  rw [if_neg h1] at h
  exact absurd h h1
structure FormOk (w:World) (es:List FE) (ps:List PE) (X:Nat->Ex):Prop where
 fi:FIs w es
 pi:PIs' w ps
 src:Srcs X es
 fields:checkF (es.map FE.fd) X=0
 pages:checkP (es.map FE.fd) ps=0
theorem FormOk.few {w:World} {es:List FE} {ps:List PE} {X:Nat->Ex} (h:FormOk w es ps X):es.length<=14/\1<=ps.length/\ps.length<=6:=by
 have h1:=h.fields
 unfold checkF at h1
 rw [List.length_map] at h1
 by_cases hl:14 < es.length
 ·rw [if_pos hl] at h1; exact absurd h1 (by decide)
 ·exact ⟨by omega,(page_zero h.pages).1⟩
theorem FormOk.fl {w:World} {es:List FE} {ps:List PE} {X:Nat->Ex} (h:FormOk w es ps X):(∀ f ∈ es.map flE,FlOk f)/\∀ f ∈ es.map flE,1 < f.k->f.x.checkE=0:=by
 have hall:=fields_ok (w:=w) (X:=X) (es:=es) (fun i hi => ⟨h.src i hi,h.fi i hi⟩) h.fields
 refine ⟨fun f hf => ?_,fun f hf => ?_⟩ <;> obtain ⟨e,he,rfl⟩:=List.mem_map.1 hf <;> obtain ⟨i,hi,rfl⟩:=List.getElem_of_mem he
 ·exact (hall i hi).1
 ·exact (hall i hi).2
theorem FormOk.nms {w:World} {es:List FE} {ps:List PE} {X:Nat->Ex} (h:FormOk w es ps X):∀ f ∈ es.map FE.fd,nmB f.nm.data.toList=true:=fun f hf => by
 obtain ⟨e,he,rfl⟩:=List.mem_map.1 hf
 exact (h.fl.1 (flE e) (List.mem_map.2 ⟨e,he,rfl⟩)).nm
theorem FormOk.pl {w:World} {es:List FE} {ps:List PE} {X:Nat->Ex} (h:FormOk w es ps X):(∀ p ∈ ps.map plE,PlOk p)/\∀ p ∈ ps.map plE,p.2=true->p.1.x.checkE=0:=by
 have hall:=pages_ok (w:=w) h.nms (fun e he => by obtain ⟨i,hi,rfl⟩:=List.getElem_of_mem he; exact h.pi i hi) h.pages
 refine ⟨fun f hf => ?_,fun f hf hk => ?_⟩ <;> obtain ⟨e,he,rfl⟩:=List.mem_map.1 hf <;> obtain ⟨i,hi,rfl⟩:=List.getElem_of_mem he
 ·exact (hall i hi).1
 ·exact fits_check ((hall i hi).2 hk)
theorem FormOk.nofeed {w:World} {es:List FE} {ps:List PE} {X:Nat->Ex} (h:FormOk w es ps X):∀ l ∈ linesF (es.map flE) (ps.map plE),(10:UInt8) ∉ l:=fun l hl => by
 unfold linesF at hl
 rcases List.mem_append.1 hl with hl | hl <;> obtain ⟨f,hf,rfl⟩:=List.mem_map.1 hl
 ·unfold flL
  by_cases hk:1 < f.k
  ·exact field_feed (h.fl.1 f hf).nm (txt_feed (checkE_zero (h.fl.2 f hf hk)).2.2)
  ·have e:fieldL f.nm f.k f.t (Ex.txt f.x)=fieldL f.nm f.k f.t []:=by unfold fieldL; rw [if_neg hk,if_neg hk]
   rw [e]
   exact field_feed (h.fl.1 f hf).nm (by simp)
 ·unfold plL
  refine page_feed (h.pl.1 f hf).nm (h.pl.1 f hf).fs fun s hs => ?_
  by_cases hk:f.2=true
  ·rw [if_pos hk] at hs
   injection hs with hs
   subst hs
   exact txt_feed (checkE_zero (h.pl.2 f hf hk)).2.2
  ·rw [if_neg hk] at hs; cases hs
theorem FormOk.split {w:World} {es:List FE} {ps:List PE} {X:Nat->Ex} (h:FormOk w es ps X):Lib.split (formL es ps) [10]=linesF (es.map flE) (ps.map plE):=by
 have hn:=h.nofeed
 unfold formL
 cases hl:linesF (es.map flE) (ps.map plE) with
 | nil =>
  exfalso
  have:=congrArg List.length hl
  unfold linesF at this
  simp at this
  have h2:=h.few.2.1
  rw [this.2] at h2
  exact absurd h2 (by decide)
 | cons a r =>
  rw [hl] at hn
  exact lines_back a r hn
theorem nodup_le:∀ (n:Nat) (l:List Nat),l.Nodup->(∀ x ∈ l,x < n)->l.length<=n
 | 0,l,_,h => by
  cases l with
  | nil => exact Nat.le_refl _
  | cons x l => exact absurd (h x (by simp)) (by omega)
 | n + 1,l,hd,h => by
  have h1:=nodup_le n (l.erase n) (hd.erase n) (fun x hx => by
   have h2:=(hd.mem_erase_iff).1 hx
   have h3:=h x h2.2
   omega)
  by_cases hm:n ∈ l
  ·rw [List.length_erase_of_mem hm] at h1
   omega
  ·rw [List.erase_of_not_mem hm] at h1
   omega
theorem names_few {fs:List GenL.Fd} {met L:List ByteArray} (h:scan (nameE fs met L) L.length=0):L.length<=fs.length:=by
 have hall:∀ (j:Nat) (hj:j < L.length),atF fs L[j] < fs.length/\L[j] ∉ L.take j:=fun j hj => by
  have h3:=scan_all _ h j hj
  unfold nameE at h3
  rw [dif_pos hj] at h3
  by_cases h4:atF fs L[j] < fs.length
  ·rw [if_pos h4] at h3
   refine ⟨h4,fun hm => ?_⟩
   rw [if_pos ((hasB_true _ _).2 (List.mem_append.2 (.inr hm)))] at h3
   exact absurd h3 (by decide)
  ·rw [if_neg h4] at h3; exact absurd h3 (by decide)
 have hnd:(L.map (atF fs)).Nodup:=by
  refine List.pairwise_iff_getElem.2 fun i j hi hj hij => ?_
  rw [List.length_map] at hi hj
  rw [List.getElem_map,List.getElem_map]
  intro e
  have a:=(atF_at (hall i hi).1).1
  have b:=(atF_at (hall j hj).1).1
  have:L[i]=L[j]:=by
   rw [← a,← b]
   simp only [e]
  apply (hall j hj).2
  rw [← this]
  exact List.mem_take_iff_getElem.2 ⟨i,by omega,rfl⟩
 have:=nodup_le fs.length (L.map (atF fs)) hnd fun x hx => by
  obtain ⟨s,hs,rfl⟩:=List.mem_map.1 hx
  obtain ⟨j,hj,rfl⟩:=List.getElem_of_mem hs
  exact (hall j hj).1
 rwa [List.length_map] at this
theorem commas_len:∀ (l:List (List UInt8)) (n:Nat),(∀ s ∈ l,s.length<=n)->(commas l).length<=l.length * (n + 2)
 | [],n,_ => by simp [commas]
 | [a],n,h => by
  have:=h a (by simp)
  simp [commas]
  omega
 | a :: b :: r,n,h => by
  have h1:=h a (by simp)
  have h2:=commas_len (b :: r) n fun s hs => h s (by simp at hs ⊢; exact .inr hs)
  show (a ++ ([44,32] ++ commas (b :: r))).length<=_
  rw [List.length_append,List.length_append]
  simp only [List.length_cons,List.length_nil] at h2 ⊢
  rw [Nat.add_mul (r.length + 1) 1 (n + 2)]
  omega
theorem kd_len (k:Int):(kdW k).length<=8:=by unfold kdW; split <;> (try split) <;> (try split) <;> simp
theorem ty_len (t:Int):(tyW t).length<=5:=by unfold tyW; split <;> (try split) <;> (try split) <;> simp
theorem joinN_len:∀ (l:List (List UInt8)) (n:Nat),(∀ s ∈ l,s.length<=n)->(joinN l).length<=l.length * (n + 1)
 | [],n,_ => by simp [joinN]
 | [a],n,h => by
  have:=h a (by simp)
  simp [joinN]
  omega
 | a :: b :: r,n,h => by
  have h1:=h a (by simp)
  have h2:=joinN_len (b :: r) n fun s hs => h s (by simp at hs ⊢; exact .inr hs)
  show (a ++ (10 :: joinN (b :: r))).length<=_
  rw [List.length_append,List.length_cons]
  simp only [List.length_cons] at h2 ⊢
  rw [Nat.add_mul (r.length + 1) 1 (n + 1)]
  omega
theorem txt_le {x:Ex} (h:x.checkE=0):(Ex.txt x).length<=6000:=by
 have h1:=txt_len x (checkE_zero h).2.2
 have h2:=(checkE_zero h).1
 omega
theorem FormOk.line {w:World} {es:List FE} {ps:List PE} {X:Nat->Ex} (h:FormOk w es ps X):∀ l ∈ linesF (es.map flE) (ps.map plE),l.length<=6300:=fun l hl => by
 unfold linesF at hl
 rcases List.mem_append.1 hl with hl | hl <;> obtain ⟨f,hf,rfl⟩:=List.mem_map.1 hl
 ·have h1:=(nmB_parts (h.fl.1 f hf).nm).2.1
  have h2:=kd_len f.k
  have h3:=ty_len f.t
  unfold flL fieldL
  simp only [List.length_append]
  by_cases hk:1 < f.k
  ·have h4:=txt_le (h.fl.2 f hf hk)
   rw [if_pos hk,List.length_append]
   have:eqW.length=3:=rfl
   omega
  ·rw [if_neg hk]
   simp only [List.length_nil]
   omega
 ·have h1:=(nmB_parts (h.pl.1 f hf).nm).2.1
  have hfs:f.1.fs.length<=14:=by
   obtain ⟨e,he,rfl⟩:=List.mem_map.1 hf
   obtain ⟨i,hi,rfl⟩:=List.getElem_of_mem he
   have h0:=((page_zero h.pages).2 i hi).1
   unfold pageE at h0
   rw [dif_pos hi,if_pos ((page_zero h.pages).2 i hi).2.1,if_neg ((page_zero h.pages).2 i hi).2.2] at h0
   show (ps[i].fs.map fun s => s.data.toList).length<=14
   rw [List.length_map]
   by_cases h6:scan (nameE (es.map FE.fd) (metP ps i) ps[i].fs) ps[i].fs.length=0
   ·have:=names_few h6
    rw [List.length_map] at this
    have:=h.few.1
    omega
   ·rw [if_neg h6] at h0; exact absurd h0 h6
  have h2:=commas_len f.1.fs 10 fun s hs => (nmB_parts ((h.pl.1 f hf).fs s hs)).2.1
  unfold plL pageL
  simp only [List.length_append]
  have h3:pgW.length=5:=rfl
  have h4:coW.length=2:=rfl
  by_cases hk:f.2=true
  ·rw [if_pos hk]
   unfold skL
   have h5:=txt_le (h.pl.2 f hf hk)
   rw [List.length_append]
   have:seW.length=2:=rfl
   omega
  ·rw [if_neg hk]
   unfold skL
   simp only [List.length_nil]
   omega
theorem FormOk.size {w:World} {es:List FE} {ps:List PE} {X:Nat->Ex} (h:FormOk w es ps X):(formL es ps).length<=130000:=by
 have h1:=joinN_len _ 6300 h.line
 have h2:(linesF (es.map flE) (ps.map plE)).length=es.length + ps.length:=by unfold linesF; simp
 rw [h2] at h1
 have h3:=h.few
 unfold formL
 omega
end TxT
namespace TxP
open ValM LexM ExM ShowM PrM TxM TxR
set_option linter.unusedVariables false
theorem cut_spec (l sep:List UInt8) (hs:sep ≠ []):(Lib.index l sep=-1/\cutO l sep=none) ∨ ∃ (i:Nat),Lib.index l sep=i/\i + sep.length<=l.length/\l=l.take i ++ (sep ++ l.drop (i + sep.length))/\cutO l sep=some (l.take i,l.drop (i + sep.length))/\Lib.NoOcc l sep i:=by
 rcases Lib.index_spec l sep with ⟨h,_⟩ | ⟨i,h,hi,ho,hn⟩
 ·exact .inl ⟨h,cut_no h⟩
 ·refine .inr ⟨i,h,?_,?_,?_,hn⟩
  ·rcases Lib.occAt_room ho with h1 | h1
   ·exact h1
   ·exact absurd h1 hs
  ·have:sep <+: l.drop i:=List.isPrefixOf_iff_prefix.1 ho
   obtain ⟨r,hr⟩:=this
   have e:l.drop (i + sep.length)=r:=by rw [← List.drop_drop,← hr,List.drop_left]
   rw [e,hr,List.take_append_drop]
  ·unfold cutO
   rw [if_neg (by rw [h]; omega),h]
   rfl
theorem cut_join {l sep a r:List UInt8} (hs:sep ≠ []) (h:cutO l sep=some (a,r)):l=a ++ (sep ++ r)/\r.length < l.length:=by
 rcases cut_spec l sep hs with ⟨_,e⟩ | ⟨i,h1,h2,h3,h4,_⟩
 ·rw [e] at h; cases h
 ·rw [h4] at h
  injection h with h
  injection h with ha hr
  subst ha hr
  refine ⟨h3,?_⟩
  have:=List.length_pos_iff.2 hs
  rw [List.length_drop]
  omega
theorem cut_lib (l sep:List UInt8) (hs:sep ≠ []):Lib.cut l sep=match cutO l sep with | none => (l,[],false) | some (a,r) => (a,r,true):=by
 unfold Lib.cut
 rcases cut_spec l sep hs with ⟨h,e⟩ | ⟨i,h1,h2,h3,h4,_⟩
 ·rw [if_neg (by rw [h]; decide),e]
 ·rw [if_pos (by rw [h1]; omega),h4,h1]
  rfl
theorem split_cut (l sep:List UInt8) (hs:sep ≠ []):Lib.split l sep=match cutO l sep with | none => [l] | some (a,r) => a :: Lib.split r sep:=by
 rcases cut_spec l sep hs with ⟨h,e⟩ | ⟨i,h1,h2,h3,h4,_⟩
 ·rw [e]
  unfold Lib.split
  rw [Lib.count_miss h]
  rfl
 ·rw [h4]
  unfold Lib.split
  rw [Lib.count_hit hs h1,Nat.add_comm 1,Lib.splitK,if_neg (by rw [h1]; simp),h1]
  rfl
theorem splitK_step (l sep:List UInt8) (k:Nat) (hs:sep ≠ []):Lib.splitK sep 0 (k + 1) l=match cutO l sep with | none => [l] | some (a,r) => a :: Lib.splitK sep 0 k r:=by
 rcases cut_spec l sep hs with ⟨h,e⟩ | ⟨i,h1,h2,h3,h4,_⟩
 ·rw [e,Lib.splitK,if_pos (by rw [h]; rfl)]
 ·rw [h4,Lib.splitK,if_neg (by rw [h1]; simp),h1]
  rfl
theorem splitK_len (sep:List UInt8) (hs:sep ≠ []):∀ (k:Nat) (l:List UInt8),(Lib.splitK sep 0 k l).length<=k + 1
 | 0,_ => Nat.le_refl _
 | k + 1,l => by
  rw [splitK_step l sep k hs]
  split
  ·simp
  ·rename_i a r _
   have:=splitK_len sep hs k r
   simp only [List.length_cons]; omega
theorem splitK_join (sep:List UInt8) (hs:sep ≠ []):∀ (k:Nat) (l:List UInt8),joinS sep (Lib.splitK sep 0 k l)=l
 | 0,_ => rfl
 | k + 1,l => by
  rw [splitK_step l sep k hs]
  split
  ·rfl
  ·rename_i a r h
   have ih:=splitK_join sep hs k r
   have hj:=(cut_join hs h).1
   cases hk:Lib.splitK sep 0 k r with
   | nil =>
    exfalso
    cases k with
    | zero => cases hk
    | succ k =>
     rw [splitK_step r sep k hs] at hk
     split at hk <;> cases hk
   | cons b q =>
    rw [hk] at ih
    show a ++ (sep ++ joinS sep (b :: q))=l
    rw [ih,← hj]
def inW:List UInt8:=[105,110,112,117,116]
def foW:List UInt8:=[102,111,114,109,117,108,97]
def loW:List UInt8:=[108,111,111,107,117,112]
def kdN:List (List UInt8):=[[],inW,foW,loW]
def tyN:List (List UInt8):=[[],[105,110,116],[98,111,111,108],[116,101,120,116]]
def wordOf (L:List (List UInt8)) (s:List UInt8):Int:=if L.getD 0 []=s then 0 else if L.getD 1 []=s then 1 else if L.getD 2 []=s then 2 else if L.getD 3 []=s then 3 else 0
theorem word_bd (L:List (List UInt8)) (s:List UInt8):0<=wordOf L s/\wordOf L s<=3:=by
 unfold wordOf
 repeat' split
 all_goals omega
theorem word_kd {s:List UInt8} (h:wordOf kdN s ≠ 0):kdW (wordOf kdN s)=s ++ [32]:=by
 unfold wordOf at h ⊢
 by_cases h0:kdN.getD 0 []=s
 ·rw [if_pos h0] at h; exact absurd rfl h
 ·rw [if_neg h0] at h ⊢
  by_cases h1:kdN.getD 1 []=s
  ·rw [if_pos h1,← h1]; rfl
  ·rw [if_neg h1] at h ⊢
   by_cases h2:kdN.getD 2 []=s
   ·rw [if_pos h2,← h2]; rfl
   ·rw [if_neg h2] at h ⊢
    by_cases h3:kdN.getD 3 []=s
    ·rw [if_pos h3,← h3]; rfl
    ·rw [if_neg h3] at h; exact absurd rfl h
theorem word_ty {s:List UInt8} (h:wordOf tyN s ≠ 0):tyW (wordOf tyN s)=32 :: s:=by
 unfold wordOf at h ⊢
 by_cases h0:tyN.getD 0 []=s
 ·rw [if_pos h0] at h; exact absurd rfl h
 ·rw [if_neg h0] at h ⊢
  by_cases h1:tyN.getD 1 []=s
  ·rw [if_pos h1,← h1]; rfl
  ·rw [if_neg h1] at h ⊢
   by_cases h2:tyN.getD 2 []=s
   ·rw [if_pos h2,← h2]; rfl
   ·rw [if_neg h2] at h ⊢
    by_cases h3:tyN.getD 3 []=s
    ·rw [if_pos h3,← h3]; rfl
    ·rw [if_neg h3] at h; exact absurd rfl h
theorem three_of {a b c:List UInt8} (ha:(32:UInt8) ∉ a) (hb:(32:UInt8) ∉ b):Lib.splitN (a ++ ([32] ++ (b ++ ([32] ++ c)))) [32] 3=[a,b,c]:=by
 unfold Lib.splitN
 have e:min 3 ((a ++ ([32] ++ (b ++ ([32] ++ c)))).length + 1) - 1=2:=by
  simp only [List.length_append,List.length_cons,List.length_nil]
  omega
 rw [e,splitK_step _ _ _ (by simp),cut_at (index_piece (c:=32) (t:=[]) rfl ha)]
 simp only
 rw [splitK_step _ _ _ (by simp),cut_at (index_piece (c:=32) (t:=[]) rfl hb)]
 rfl
theorem three_inv {h a b c:List UInt8} (e:Lib.splitN h [32] 3=[a,b,c]):h=a ++ ([32] ++ (b ++ ([32] ++ c))):=by
 have:=splitK_join [32] (by simp) (min 3 (h.length + 1) - 1) h
 unfold Lib.splitN at e
 rw [e] at this
 exact this.symm
theorem three_len (h:List UInt8):(Lib.splitN h [32] 3).length<=3:=by
 unfold Lib.splitN
 have:=splitK_len [32] (by simp) (min 3 (h.length + 1) - 1) h
 omega
theorem three_cases (h:List UInt8):(Lib.splitN h [32] 3).length < 3 ∨ ∃ a b c,Lib.splitN h [32] 3=[a,b,c]:=by
 have:=three_len h
 match hh:Lib.splitN h [32] 3,this with
 | [],_ => exact .inl (by simp)
 | [a],_ => exact .inl (by simp)
 | [a,b],_ => exact .inl (by simp)
 | [a,b,c],_ => exact .inr ⟨a,b,c,rfl⟩
 | _ :: _ :: _ :: _ :: _,h => simp at h
theorem head_some {h:List UInt8} {p:Int × Int} (hp:headO h=some p):h=kdW p.1 ++ (midL h p ++ tyW p.2)/\(1<=p.1/\p.1<=3)/\1<=p.2/\p.2<=3:=by
 unfold headO at hp
 have h1:=List.find?_some hp
 have h2:=List.mem_of_find?_eq_some hp
 unfold isHd at h1
 simp only [Bool.and_eq_true,decide_eq_true_eq] at h1
 obtain ⟨⟨ha,hb⟩,hl⟩:=h1
 refine ⟨?_,?_⟩
 ·obtain ⟨r,hr⟩:=pre_iff.1 ha
  obtain ⟨q,hq⟩:=suf_iff.1 hb
  have hlq:(kdW p.1).length<=q.length:=by
   have:=congrArg List.length hq
   rw [List.length_append] at this
   omega
  have e1:h.take (h.length - (tyW p.2).length)=q:=by
   rw [← hq,List.length_append,Nat.add_sub_cancel,List.take_left]
  unfold midL
  rw [e1]
  have e2:q.take (kdW p.1).length=kdW p.1:=by
   have h5:=congrArg (List.take (kdW p.1).length) (hq.trans hr.symm)
   rw [List.take_append_of_le_length hlq,List.take_left] at h5
   exact h5
  have e3:kdW p.1 ++ q.drop (kdW p.1).length=q:=by
   conv => lhs; rw [← e2]
   rw [e2]
   have:=List.take_append_drop (kdW p.1).length q
   rw [e2] at this
   exact this
  rw [← List.append_assoc,e3,hq]
 ·unfold kts at h2
  simp only [List.mem_cons,List.not_mem_nil,or_false] at h2
  rcases h2 with rfl | rfl | rfl | rfl | rfl | rfl | rfl | rfl | rfl <;> decide
theorem kd_word {k:Int} (h:1<=k/\k<=3):∃ a,kdW k=a ++ [32]/\(32:UInt8) ∉ a/\wordOf kdN a=k:=by
 rcases kt_cases h with rfl | rfl | rfl
 ·exact ⟨inW,rfl,by decide,by decide⟩
 ·exact ⟨foW,rfl,by decide,by decide⟩
 ·exact ⟨loW,rfl,by decide,by decide⟩
theorem ty_word {t:Int} (h:1<=t/\t<=3):∃ a,tyW t=32 :: a/\wordOf tyN a=t:=by
 rcases kt_cases h with rfl | rfl | rfl
 ·exact ⟨[105,110,116],rfl,by decide⟩
 ·exact ⟨[98,111,111,108],rfl,by decide⟩
 ·exact ⟨[116,101,120,116],rfl,by decide⟩
theorem nm_no {l:List UInt8} (h:nmB l=true):(32:UInt8) ∉ l:=fun hm => (aln_not ((nmB_parts h).2.2 _ hm)).2.1 rfl
def fieldW (l:List UInt8):Ln :=
 match Lib.splitN (((cutO l eqW).map (·.1)).getD l) [32] 3 with
 | [a,b,c] => if wordOf kdN a ≠ 0/\wordOf tyN c ≠ 0/\nmB b=true/\(cutO l eqW).isSome=decide (wordOf kdN a ≠ 1) then .field b (wordOf kdN a) (wordOf tyN c) ((cutO l eqW).map (·.2)) else .bad false
 | _ => .bad false
theorem fieldW_eq {l:List UInt8} (hp:¬ Lib.hasPrefix l pgW=true):lineV l=fieldW l:=by
 unfold lineV fieldW
 rw [if_neg hp]
 generalize ((cutO l eqW).map (·.1)).getD l=h
 generalize cutO l eqW=o
 cases hh:headO h with
 | none =>
  simp only
  rcases three_cases h with h3 | ⟨a,b,c,h3⟩
  ·match hw:Lib.splitN h [32] 3,h3 with
   | [],_ => rfl
   | [a],_ => rfl
   | [a,b],_ => rfl
  ·rw [h3]
   simp only
   by_cases hc:wordOf kdN a ≠ 0/\wordOf tyN c ≠ 0/\nmB b=true/\o.isSome=decide (wordOf kdN a ≠ 1)
   ·exfalso
    obtain ⟨c1,c2,c3,_⟩:=hc
    have e:=three_inv h3
    have b1:=word_bd kdN a
    have b2:=word_bd tyN c
    have:=(head_of (nm:=b) (k:=wordOf kdN a) (t:=wordOf tyN c) (nmB_parts c3).1 ⟨by omega,b1.2⟩ ⟨by omega,b2.2⟩).1
    rw [word_kd c1,word_ty c2] at this
    rw [show (a ++ [32]) ++ (b ++ 32 :: c)=h from by rw [e]; simp] at this
    rw [hh] at this; cases this
   ·rw [if_neg hc]
 | some p =>
  simp only
  obtain ⟨e,p1,p2⟩:=head_some hh
  by_cases hn:nmB (midL h p)=true
  ·obtain ⟨a,ea,na,wa⟩:=kd_word p1
   obtain ⟨c,ec,wc⟩:=ty_word p2
   have h3:Lib.splitN h [32] 3=[a,midL h p,c]:=by
    conv => lhs; rw [e,ea,ec]
    have:=three_of (c:=c) na (nm_no hn)
    rw [← this]
    simp
   rw [h3]
   simp only [wa,wc]
   have hk:(1 < p.1)=(p.1 ≠ 1):=by
    have:=p1.1
    apply propext
    constructor <;> intro h <;> omega
   have hd:decide (1 < p.1)=decide (p.1 ≠ 1):=by simp only [hk]
   rw [hd]
   by_cases hs:o.isSome=decide (p.1 ≠ 1)
   ·rw [if_pos ⟨hn,hs⟩,if_pos ⟨by omega,by omega,hn,hs⟩]
   ·rw [if_neg (fun q => hs q.2),if_neg (fun q => hs q.2.2.2)]
  ·rw [if_neg (fun q => hn q.1)]
   rcases three_cases h with h3 | ⟨a,b,c,h3⟩
   ·match hw:Lib.splitN h [32] 3,h3 with
    | [],_ => rfl
    | [a],_ => rfl
    | [a,b],_ => rfl
   ·rw [h3]
    simp only
    by_cases hc:wordOf kdN a ≠ 0/\wordOf tyN c ≠ 0/\nmB b=true/\o.isSome=decide (wordOf kdN a ≠ 1)
    ·exfalso
     obtain ⟨c1,c2,c3,_⟩:=hc
     have e:=three_inv h3
     have b1:=word_bd kdN a
     have b2:=word_bd tyN c
     have:=head_of (nm:=b) (k:=wordOf kdN a) (t:=wordOf tyN c) (nmB_parts c3).1 ⟨by omega,b1.2⟩ ⟨by omega,b2.2⟩
     rw [word_kd c1,word_ty c2] at this
     rw [show (a ++ [32]) ++ (b ++ 32 :: c)=h from by rw [e]; simp] at this
     rw [hh] at this
     obtain ⟨q1,q2⟩:=this
     injection q1 with q1
     rw [← q1] at q2
     rw [q2] at hn
     exact hn c3
    ·rw [if_neg hc]
def namesR (l:List UInt8):Option (List (List UInt8)):=if l=[] then some [] else if (Lib.split l cmW).all nmB=true then some (Lib.split l cmW) else none
def pageW (l:List UInt8):Ln :=
 match cutO l coW with
 | none => .bad true
 | some (nm,r) =>
  if nmB nm=true then
   match namesR (((cutO r seW).map (·.1)).getD r) with
   | none => .bad true
   | some ns => .page nm ns ((cutO r seW).map (·.2))
  else .bad true
theorem pageW_eq {l:List UInt8} (hp:Lib.hasPrefix l pgW=true):lineV l=pageW (l.drop 5):=by
 unfold lineV pageW
 rw [if_pos hp]
 cases cutO (l.drop 5) coW with
 | none => rfl
 | some q =>
  obtain ⟨nm,r⟩:=q
  simp only
  by_cases hn:nmB nm=true
  ·rw [if_pos hn,if_pos hn]
   unfold namesR
   generalize ((cutO r seW).map (·.1)).getD r=t
   by_cases ht:t=[]
   ·rw [if_pos ht,if_pos ht]
    rfl
   ·rw [if_neg ht,if_neg ht]
    by_cases ha:(Lib.split t cmW).all nmB=true
    ·rw [if_pos ha,if_pos ha]
    ·rw [if_neg ha,if_neg ha]
  ·rw [if_neg hn,if_neg hn]
end TxP
namespace StrTab
open Go.ChangeShapes Go.WideShapes
def strData {H:Type} (zs:List (List UInt8)):DataW H:=.agg (zs.map fun l => .lit (.string l))
def Is (P:Program) (w:World) (name:String) (zs:List (List UInt8)):Prop:=w.var? P name=some (zs.map fun l => Value.string ⟨l.toArray⟩).toArray
theorem cells_of {H:Type} {enc:TypeId × Value->H} {P:Program} {w:World} {base:Nat} {sp:Nat->Bool} {held:Bool} {fuel:Nat} {t e:TypeId} {n:Nat} {cs:List Value} {zs:List (List UInt8)} {p:List MemPlace}
  (ht:P.underlying t=some (.array n e)) (he:P.underlying e=some .string) (hce:P.cellsOf e=1) (hct:P.cellsOf t=n)
  (h:DataW.trod enc P w base sp held fuel t cs=some (strData zs,p)):cs=zs.map fun l => Value.string ⟨l.toArray⟩:=by
 cases fuel with
 | zero => simp [DataW.trod] at h
 | succ fuel =>
  simp only [DataW.trod,ht,hce,hct,Nat.mul_one] at h
  split at h
  ·rename_i hl
   obtain ⟨xs,hm,hx⟩:=Option.map_eq_some_iff.1 h
   have hxs:xs.map (·.1)=zs.map fun l => (DataW.lit (.string l):DataW H):=by
    have:=congrArg Prod.fst hx
    simpa [strData] using this
   have hxl:xs.length=n:=by simpa using Lib.mapM_length hm
   have hzl:zs.length=n:=by
    have:=congrArg List.length hxs
    simp at this
    omega
   apply List.ext_getElem?
   intro i
   by_cases hi:i < n
   ·obtain ⟨b,hb,hf⟩:=Lib.mapM_at hm i i (by simp [hi])
    obtain ⟨z,hc,rfl,_⟩:=DataW.trod_string he hf
    have h1:cs[i]?=some (.string z):=by
     have:=congrArg (·[0]?) hc
     simpa [List.getElem?_take,List.getElem?_drop] using this
    have h2:(xs.map (·.1))[i]?=some (DataW.lit (.string z.data.toList):DataW H):=by simp [hb]
    rw [hxs] at h2
    simp only [List.getElem?_map,Option.map_eq_some_iff,DataW.lit.injEq,Lit.string.injEq] at h2
    obtain ⟨z',hz',hz2⟩:=h2
    simp [h1,hz',hz2]
   ·rw [List.getElem?_eq_none (by omega),List.getElem?_eq_none (by simp; omega)]
  ·cases h
theorem is_of_head {P:Program} {W:World} {name:String} {zs:List (List UInt8)} {rest:List (String × DataW Unit)} {g:Nat} {t e:TypeId} {n:Nat}
  (hg:P.globalNamed name=some g) (hty:(P.globals[g]?).map (·.type)=some t) (ht:P.underlying t=some (.array n e)) (he:P.underlying e=some .string) (hce:P.cellsOf e=1) (hct:P.cellsOf t=n)
  (h:laidMet P ((name,strData zs) :: rest) W):Is P W name zs:=by
 obtain ⟨ps,⟨g',t',cs,fuel,p,q,hg',ht',hvar,hd,_,_⟩,_⟩:=h
 obtain rfl:=Option.some.inj (hg.symm.trans hg')
 obtain rfl:=Option.some.inj (hty.symm.trans ht')
 unfold Is
 rw [hvar,← cells_of ht he hce hct hd]
theorem Is.cell {P:Program} {W:World} {name:String} {zs:List (List UInt8)} {g:Nat} (h:Is P W name zs) (hg:P.globalNamed name=some g) (i:Nat) (hi:i < zs.length) :
  W.cell? ⟨g,i,none⟩=some (.string ⟨(zs.getD i []).toArray⟩):=by
 have:=World.var?_cell hg h i
 simpa [List.getD,hi] using this
end StrTab
namespace LexT
open Go.RowKit
open LexM LexB Kit
set_option linter.unusedVariables false
def sgnL:List (List UInt8):=[[60,61],[33,61],[60],[61],[43],[45],[42],[47],[37],[38],[40],[41],[44]]
structure Vars (w:World):Prop where
 syn : ∃ p, w.var? Tryz.prog "strconv.ErrSyntax" = some #[.iface 345 p]
 ran : ∃ p, w.var? Tryz.prog "strconv.ErrRange" = some #[.iface 345 p]
 sgn : StrTab.Is Tryz.prog w "lychway/lex.signs" sgnL
theorem var_below {w w':World} {n:String} {cs:Array Value} (h:w.var? Tryz.prog n=some cs) (hb:Below w.heap.size w w'):w'.var? Tryz.prog n=some cs:=by
 have hg:∃ g,Tryz.prog.globalNamed n=some g/\g < w.heap.size:=by
  unfold World.var? at h
  cases hg:Tryz.prog.globalNamed n with
  | none => simp [hg] at h
  | some g =>
   refine ⟨g,rfl,?_⟩
   rcases Nat.lt_or_ge g w.heap.size with hl | hl
   ·exact hl
   ·simp [hg,Array.getElem?_eq_none hl] at h
 obtain ⟨g,hg,hl⟩:=hg
 exact var?_below hb hg hl h
theorem Vars.below {w w':World} (h:Vars w) (hb:Below w.heap.size w w'):Vars w':=by
 obtain ⟨p,hp⟩:=h.syn
 obtain ⟨q,hq⟩:=h.ran
 exact ⟨⟨p,var_below hp hb⟩,⟨q,var_below hq hb⟩,var_below h.sgn hb⟩
def Tells (f:Fst) (l:List UInt8) (k vk n e:Int) (u t:ByteArray):Prop :=
 match f with
 | .bad q => e=q/\q ≠ 0
 | .tok T => e=0/\T.kind=k/\u.data.toList=l.take T.len/\T.vk=vk/\T.n=n/\t.data.toList=T.t
theorem b_set6 {w w1:World} (h:Below w.heap.size w w1) (b:Nat) (hb:w.heap.size<=b) (x y z x' y' z':Value):Below w.heap.size w ((((((w1.setCell ⟨b,0,none⟩ x).setCell ⟨b,1,none⟩ y).setCell ⟨b,2,none⟩ z).setCell ⟨b,3,none⟩ x').setCell ⟨b,4,none⟩ y').setCell ⟨b,5,none⟩ z') :=
 (((b_set3 h b hb x y z).setCell (p:=⟨b,3,none⟩) hb _).setCell (p:=⟨b,4,none⟩) hb _).setCell (p:=⟨b,5,none⟩) hb _
theorem dig_pre (s:ByteArray):(s.extract 0 (tw digB s)).data.toList=s.data.toList.takeWhile digB:=by
 have e:(s.extract 0 (tw digB s)).data.toList=s.data.toList.take (tw digB s):=by simp [ByteArray.data_extract]
 rw [e]; exact LexM.take_tw digB _
theorem tw_pos (p:UInt8->Bool) (s:ByteArray) (h0:0 < s.size) (hd:p s[0]=true):0 < tw p s:=by
 obtain ⟨r,hr⟩:=head_of s h0
 unfold tw; rw [hr,List.takeWhile_cons,if_pos hd]; simp
theorem head_is (D:ByteArray) (h:0 < D.size):D.data.toList.head?=some D[0]:=by
 obtain ⟨r,hr⟩:=head_of D h; rw [hr]; rfl
theorem byte_is (c:UInt8) (n:Nat) (hn:n < 256):((c.toNat:Int) == (n:Int))=decide (c=UInt8.ofNat n):=by
 rw [Bool.eq_iff_iff,beq_iff_eq,decide_eq_true_eq,← UInt8.toNat_inj,UInt8.toNat_ofNat',Nat.mod_eq_of_lt (by simpa using hn)]; omega
theorem number_lead (s D:ByteArray) (hs:s.size<=140737488351232) (hD:s.extract 0 (tw digB s)=D) (hp:0 < D.size) (h1:D[0]=48) (h2:D.data.toList ≠ [48]) (w:World) :
  Calls Tryz.prog 274 #[.string s] w fun e w' => e=.returned (.tuple #[.agg #[.int .i64 0,.int .i64 0,.string ⟨#[]⟩,.int .i64 0,.int .i64 0,.string ⟨#[]⟩],.int .i64 3])/\Below w.heap.size w w':=by
 have c1:=fun W => leading_dig s W (by omega)
 rw [hD] at c1
 have hpi:(0:Int) < D.size:=by omega
 have e1:((D[0].toNat:Int) == 48)=true:=by rw [h1]; rfl
 have e2:(D.toList == [48])=false:=by rw [eqb_of]; exact decide_eq_false h2
 have e3:(D.toList != [48])=true:=by unfold bne; rw [e2]; rfl
 have C1:=Lib.hid c1
 clear c1 hD h1 h2
 go_enter Tryz.func274,Tryz.ntmps274
 go_wp2_with fail
 refine (C1.out _).mono ?_; rintro e w1 ⟨rfl,rfl⟩
 go_wp2_with fail
 refine bodyPost_ret (v:=.tuple #[.agg #[.int .i64 0,.int .i64 0,.string ⟨#[]⟩,.int .i64 0,.int .i64 0,.string ⟨#[]⟩],.int .i64 3]) (by simp [results,Tryz.results274,go_sem]) rfl ⟨rfl,b_new _ _⟩
theorem end_cases (e:Lib.NumEnd Int):(∃ n,e=.ok n) ∨ e=Lib.NumEnd.syntax ∨ e=Lib.NumEnd.range:=by cases e <;> simp
def Plain (D:ByteArray):Prop:=D.data.toList.head?=some 48->D.data.toList=[48]
theorem plain_tests (D:ByteArray) (hp:0 < D.size) (h:Plain D):((D[0].toNat:Int) == 48)=false ∨ (((D[0].toNat:Int) == 48)=true/\(D.toList == [48])=true/\(D.toList != [48])=false):=by
 by_cases g:D[0]=48
 ·right
  have e:D.data.toList=[48]:=h (by rw [head_is D hp,g])
  have e2:(D.toList == [48])=true:=by rw [eqb_of]; exact decide_eq_true e
  exact ⟨by rw [g]; rfl,e2,by unfold bne; rw [e2]; rfl⟩
 ·left
  have:=byte_is D[0] 48 (by decide)
  rw [show ((48:Nat):Int)=48 from rfl] at this
  rw [this]; exact decide_eq_false g
theorem number_ok (s D:ByteArray) (hs:s.size<=140737488351232) (hD:s.extract 0 (tw digB s)=D) (hp:0 < D.size) (hpl:Plain D) (n:Int) (ha:Lib.atoiAll D.data.toList=.ok n) (hn:n<=1099511627776) (w:World) :
  Calls Tryz.prog 274 #[.string s] w fun e w' => e=.returned (.tuple #[.agg #[.int .i64 1,.int .i64 0,.string D,.int .i64 1,.int .i64 n,.string ⟨#[]⟩],.int .i64 0])/\Below w.heap.size w w':=by
 have hDs:D.size<=s.size:=by rw [← hD]; simp; omega
 have c1:=fun W => leading_dig s W (by omega)
 rw [hD] at c1
 have c2:∀ W:World,Calls Tryz.prog 205 #[.string D] W fun e w' => e=.returned (.tuple #[.int .i64 n,.nilIface])/\Below W.heap.size W w':=fun W =>
  (Tryz.strconv_Atoi_ok D (by omega) n ha W).mono fun e w' hh => ⟨hh.1,by
   rcases hh.2 with rfl | ⟨t,rfl⟩
   ·exact Below.refl _ _
   ·exact Lib.bytesWorld_below _ _ _⟩
 have hpi:(0:Int) < D.size:=by omega
 have C1:=Lib.hid c1
 have C2:=Lib.hid c2
 have ht:=plain_tests D hp hpl
 clear c1 c2 hD ha hpl
 rcases ht with e1 | ⟨e1,e2,e3⟩
 all_goals
  go_enter Tryz.func274,Tryz.ntmps274
  go_wp2_with fail
  refine (C1.out _).mono ?_; rintro e w1 ⟨rfl,rfl⟩
  go_wp2_with fail
  refine (C2.out _).mono ?_; rintro e w1 ⟨rfl,hb1⟩
  obtain ⟨c1,d1⟩:=bcell hb1
  have hz:w.heap.size < w1.heap.size:=Nat.lt_of_lt_of_le (by simp) hb1.size
  go_wp2_with fail
  refine bodyPost_ret (v:=.tuple #[.agg #[.int .i64 1,.int .i64 0,.string D,.int .i64 1,.int .i64 n,.string ⟨#[]⟩],.int .i64 0]) (by simp [results,Tryz.results274,go_sem,c1]) rfl ⟨rfl,?_⟩
  exact b_set6 (b_then hb1) _ (Nat.le_refl _) _ _ _ _ _ _
theorem number_over (s D:ByteArray) (hs:s.size<=140737488351232) (hD:s.extract 0 (tw digB s)=D) (hp:0 < D.size) (hpl:Plain D) (n:Int) (ha:Lib.atoiAll D.data.toList=.ok n) (hn:1099511627776 < n) (w:World) :
  Calls Tryz.prog 274 #[.string s] w fun e w' => e=.returned (.tuple #[.agg #[.int .i64 0,.int .i64 0,.string ⟨#[]⟩,.int .i64 0,.int .i64 0,.string ⟨#[]⟩],.int .i64 7])/\Below w.heap.size w w':=by
 have hDs:D.size<=s.size:=by rw [← hD]; simp; omega
 have c1:=fun W => leading_dig s W (by omega)
 rw [hD] at c1
 have c2:∀ W:World,Calls Tryz.prog 205 #[.string D] W fun e w' => e=.returned (.tuple #[.int .i64 n,.nilIface])/\Below W.heap.size W w':=fun W =>
  (Tryz.strconv_Atoi_ok D (by omega) n ha W).mono fun e w' hh => ⟨hh.1,by
   rcases hh.2 with rfl | ⟨t,rfl⟩
   ·exact Below.refl _ _
   ·exact Lib.bytesWorld_below _ _ _⟩
 have hpi:(0:Int) < D.size:=by omega
 have C1:=Lib.hid c1
 have C2:=Lib.hid c2
 have ht:=plain_tests D hp hpl
 clear c1 c2 hD ha hpl
 rcases ht with e1 | ⟨e1,e2,e3⟩
 all_goals
  go_enter Tryz.func274,Tryz.ntmps274
  go_wp2_with fail
  refine (C1.out _).mono ?_; rintro e w1 ⟨rfl,rfl⟩
  go_wp2_with fail
  refine (C2.out _).mono ?_; rintro e w1 ⟨rfl,hb1⟩
  obtain ⟨c1,d1⟩:=bcell hb1
  have hz:w.heap.size < w1.heap.size:=Nat.lt_of_lt_of_le (by simp) hb1.size
  go_wp2_with fail
  refine bodyPost_ret (v:=.tuple #[.agg #[.int .i64 0,.int .i64 0,.string ⟨#[]⟩,.int .i64 0,.int .i64 0,.string ⟨#[]⟩],.int .i64 7]) (by simp [results,Tryz.results274,go_sem,c1]) rfl ⟨rfl,?_⟩
  exact b_set6 (b_then hb1) _ (Nat.le_refl _) _ _ _ _ _ _
theorem number_err (s D:ByteArray) (hs:s.size<=140737488351232) (hD:s.extract 0 (tw digB s)=D) (hp:0 < D.size) (hpl:Plain D) (ha:∀ n,Lib.atoiAll D.data.toList ≠ .ok n) (w:World) (hv:Vars w) :
  Calls Tryz.prog 274 #[.string s] w fun e w' => e=.returned (.tuple #[.agg #[.int .i64 0,.int .i64 0,.string ⟨#[]⟩,.int .i64 0,.int .i64 0,.string ⟨#[]⟩],.int .i64 7])/\Below w.heap.size w w':=by
 have hDs:D.size<=s.size:=by rw [← hD]; simp; omega
 have c1:=fun W => leading_dig s W (by omega)
 rw [hD] at c1
 have c2:∀ W:World,Vars W->Calls Tryz.prog 205 #[.string D] W fun e w' => ∃ (m:Int) (N:Nat),e=.returned (.tuple #[.int .i64 m,.iface 317 (.pointer (some ⟨N,0,none⟩))])/\Below W.heap.size W w':=fun W hv => by
  obtain ⟨p,hp⟩:=hv.syn
  obtain ⟨q,hq⟩:=hv.ran
  rcases end_cases (Lib.atoiAll D.data.toList) with ⟨n,he⟩ | he | he
  ·exact absurd he (ha n)
  ·refine (Tryz.strconv_Atoi_syntax_var D (by omega) he _ p _ hp).mono ?_
   rintro e w' ⟨N,h1,_,_,h2⟩
   exact ⟨0,N,h1,h2⟩
  ·refine (Tryz.strconv_Atoi_range_var D (by omega) he _ q _ hq).mono ?_
   rintro e w' ⟨N,h1,_,_,h2⟩
   exact ⟨_,N,h1,h2⟩
 have hpi:(0:Int) < D.size:=by omega
 have C1:=Lib.hid c1
 have C2:=Lib.hid c2
 have HV:=Lib.hid hv
 have ht:=plain_tests D hp hpl
 clear c1 c2 hD ha hpl hv
 rcases ht with e1 | ⟨e1,e2,e3⟩
 all_goals
  go_enter Tryz.func274,Tryz.ntmps274
  go_wp2_with fail
  refine (C1.out _).mono ?_; rintro e w1 ⟨rfl,rfl⟩
  go_wp2_with fail
  refine (C2.out _ (HV.out.below (b_new w _))).mono ?_; rintro e w1 ⟨m,N,rfl,hb1⟩
  obtain ⟨c1,d1⟩:=bcell hb1
  have hz:w.heap.size < w1.heap.size:=Nat.lt_of_lt_of_le (by simp) hb1.size
  go_wp2_with fail
  refine bodyPost_ret (v:=.tuple #[.agg #[.int .i64 0,.int .i64 0,.string ⟨#[]⟩,.int .i64 0,.int .i64 0,.string ⟨#[]⟩],.int .i64 7]) (by simp [results,Tryz.results274,go_sem,c1]) rfl ⟨rfl,?_⟩
  exact b_set6 (b_then hb1) _ (Nat.le_refl _) _ _ _ _ _ _
theorem number_any (s:ByteArray) (hs:s.size<=140737488351232) (h0:0 < s.size) (hd:digB s[0]=true):∃ (k vk n e:Int) (u t:ByteArray),Tells (numT (s.data.toList.takeWhile digB)) s.data.toList k vk n e u t ∧
  ∀ w:World,Vars w->Calls Tryz.prog 274 #[.string s] w fun x w' => x=.returned (.tuple #[.agg #[.int .i64 k,.int .i64 0,.string u,.int .i64 vk,.int .i64 n,.string t],.int .i64 e])/\Below w.heap.size w w':=by
 obtain ⟨D,hD⟩:∃ D,s.extract 0 (tw digB s)=D:=⟨_,rfl⟩
 have hL:D.data.toList=s.data.toList.takeWhile digB:=by rw [← hD]; exact dig_pre s
 have hsz:D.size=tw digB s:=by rw [← len_size,hL]; rfl
 have hp:0 < D.size:=by rw [hsz]; exact tw_pos digB s h0 hd
 have htk:s.data.toList.take D.data.toList.length=D.data.toList:=by rw [hL]; exact LexM.take_tw digB _
 rw [← hL]
 by_cases h1:D.data.toList.head?=some 48/\1 < D.data.toList.length
 ·refine ⟨0,0,0,3,⟨#[]⟩,⟨#[]⟩,?_,fun w _ => number_lead s D hs hD hp ?_ ?_ w⟩
  ·unfold numT; rw [if_pos h1]; exact ⟨rfl,by decide⟩
  ·rw [head_is D hp] at h1; exact Option.some.inj h1.1
  ·intro g; rw [g] at h1; simp at h1
 ·have hpl:Plain D:=fun g => by
   have:D.data.toList.length=1:=by
    have:D.data.toList.length=D.size:=rfl
    have:¬ 1 < D.data.toList.length:=fun x => h1 ⟨g,x⟩
    omega
   match hh:D.data.toList,this with
   | [a],_ => rw [hh] at g; simp at g; rw [g]
  rcases end_cases (Lib.atoiAll D.data.toList) with ⟨n,ha⟩ | ha | ha
  ·by_cases hn:1099511627776 < n
   ·refine ⟨0,0,0,7,⟨#[]⟩,⟨#[]⟩,?_,fun w _ => number_over s D hs hD hp hpl n ha hn w⟩
    unfold numT; rw [if_neg h1,ha]; simp only; rw [if_pos hn]; exact ⟨rfl,by decide⟩
   ·refine ⟨1,1,n,0,D,⟨#[]⟩,?_,fun w _ => number_ok s D hs hD hp hpl n ha (by omega) w⟩
    unfold numT; rw [if_neg h1,ha]; simp only; rw [if_neg hn]
    exact ⟨rfl,rfl,htk.symm,rfl,rfl,rfl⟩
  ·refine ⟨0,0,0,7,⟨#[]⟩,⟨#[]⟩,?_,fun w hv => number_err s D hs hD hp hpl (fun n g => by rw [ha] at g; cases g) w hv⟩
   unfold numT; rw [if_neg h1,ha]; exact ⟨rfl,by decide⟩
  ·refine ⟨0,0,0,7,⟨#[]⟩,⟨#[]⟩,?_,fun w hv => number_err s D hs hD hp hpl (fun n g => by rw [ha] at g; cases g) w hv⟩
   unfold numT; rw [if_neg h1,ha]; exact ⟨rfl,by decide⟩
theorem word_any (s:ByteArray) (hs:s.size<=140737488351232):∃ (k vk n e:Int) (u t:ByteArray),Tells (wordT (s.data.toList.takeWhile alnB)) s.data.toList k vk n e u t ∧
  ∀ w:World,Calls Tryz.prog 275 #[.string s] w fun x w' => x=.returned (.tuple #[.agg #[.int .i64 k,.int .i64 0,.string u,.int .i64 vk,.int .i64 n,.string t],.int .i64 e])/\Below w.heap.size w w':=by
 obtain ⟨D,hD⟩:∃ D,s.extract 0 (tw alnB s)=D:=⟨_,rfl⟩
 have hL:D.data.toList=s.data.toList.takeWhile alnB:=by rw [← hD]; exact tw_eq s
 have hDs:D.size<=s.size:=by rw [← hD]; simp; omega
 have htk:s.data.toList.take D.data.toList.length=D.data.toList:=by rw [hL]; exact LexM.take_tw alnB _
 have c1:=fun W => leading_aln s W (by omega)
 rw [hD] at c1
 rw [← hL]
 by_cases h1:10 < D.size
 ·refine ⟨0,0,0,1,⟨#[]⟩,⟨#[]⟩,?_,fun w => ?_⟩
  ·unfold wordT; rw [if_pos (show 10 < D.data.toList.length from h1)]; exact ⟨rfl,by decide⟩
  ·have C1:=Lib.hid c1
   clear c1 hD hL htk
   go_enter Tryz.func275,Tryz.ntmps275
   go_wp2_with fail
   refine (C1.out _).mono ?_; rintro e w1 ⟨rfl,rfl⟩
   go_wp2_with fail
   refine bodyPost_ret (v:=.tuple #[.agg #[.int .i64 0,.int .i64 0,.string ⟨#[]⟩,.int .i64 0,.int .i64 0,.string ⟨#[]⟩],.int .i64 1]) (by simp [results,Tryz.results275,go_sem]) rfl ⟨rfl,b_new _ _⟩
 ·refine ⟨2,0,0,0,D,⟨#[]⟩,?_,fun w => ?_⟩
  ·unfold wordT; rw [if_neg (show ¬ 10 < D.data.toList.length from h1)]; exact ⟨rfl,rfl,htk.symm,rfl,rfl,rfl⟩
  ·have C1:=Lib.hid c1
   clear c1 hD hL htk
   go_enter Tryz.func275,Tryz.ntmps275
   go_wp2_with fail
   refine (C1.out _).mono ?_; rintro e w1 ⟨rfl,rfl⟩
   go_wp2_with fail
   refine bodyPost_ret (v:=.tuple #[.agg #[.int .i64 2,.int .i64 0,.string D,.int .i64 0,.int .i64 0,.string ⟨#[]⟩],.int .i64 0]) (by simp [results,Tryz.results275,go_sem]) rfl ⟨rfl,b_new _ _⟩
theorem ended_long (s t:ByteArray) (h:40 < t.size) (w:World):Calls Tryz.prog 306 #[.string s,.string t] w fun x w' => x=.returned (.tuple #[.agg #[.int .i64 0,.int .i64 0,.string ⟨#[]⟩,.int .i64 0,.int .i64 0,.string ⟨#[]⟩],.int .i64 1])/\Below w.heap.size w w':=by
 go_enter Tryz.func306,Tryz.ntmps306
 go_wp2_with fail
 refine bodyPost_ret (v:=.tuple #[.agg #[.int .i64 0,.int .i64 0,.string ⟨#[]⟩,.int .i64 0,.int .i64 0,.string ⟨#[]⟩],.int .i64 1]) (by simp [results,Tryz.results306,go_sem]) rfl ⟨rfl,b_new _ _⟩
theorem ended_ok (s t:ByteArray) (h:t.size<=40) (w:World):Calls Tryz.prog 306 #[.string s,.string t] w fun x w' => x=.returned (.tuple #[.agg #[.int .i64 3,.int .i64 0,.string s,.int .i64 3,.int .i64 0,.string t],.int .i64 0])/\Below w.heap.size w w':=by
 go_enter Tryz.func306,Tryz.ntmps306
 go_wp2_with fail
 refine bodyPost_ret (v:=.tuple #[.agg #[.int .i64 3,.int .i64 0,.string s,.int .i64 3,.int .i64 0,.string t],.int .i64 0]) (by simp [results,Tryz.results306,go_sem]) rfl ⟨rfl,b_new _ _⟩
theorem bcellB {B:Nat} {W w1:World} (hb:Below B W w1):(∀ b o,b < B->w1.cell? ⟨b,o,none⟩=W.cell? ⟨b,o,none⟩)/\(∀ b o,b < B->w1.frozen? ⟨b,o,none⟩=W.frozen? ⟨b,o,none⟩) :=
 ⟨fun b o h => hb.cell (p:=⟨b,o,none⟩) h,fun b o h => hb.frozen (p:=⟨b,o,none⟩) h⟩
structure QInv (B:Nat) (w0:World) (s:ByteArray) (k:Nat) (acc:List UInt8) (wr:World):Prop where
 one:1<=k
 le:k<=s.size
 isB:Lib.IsBuilder 97 5 B B (Lib.byteCells acc) wr
 is:quoF (s.data.toList.drop 1)=(quoF (s.data.toList.drop k)).map fun x => (x.1 + (k - 1),acc ++ x.2)
 len:acc.length<=k
 below:Below B w0 wr
 size:B<=wr.heap.size
theorem quo_end (s:ByteArray) (k:Nat) (h:k < s.size) (h1:s[k]=34):quoF (s.data.toList.drop k)=some (1,[]):=by
 rw [drop_cons s k h,h1]
 cases hh:s.data.toList.drop (k + 1) with
 | nil => rfl
 | cons d r => rw [quoF,if_pos rfl]
theorem quo_out (s:ByteArray) (k:Nat) (h:s.size<=k):quoF (s.data.toList.drop k)=none:=by
 rw [List.drop_eq_nil_of_le (by rw [len_size]; omega)]; rfl
theorem quo_bad (s:ByteArray) (k:Nat) (h:k < s.size) (h1:s[k] ≠ 34) (h2:s[k].toNat < 32 ∨ 126 < s[k].toNat):quoF (s.data.toList.drop k)=none:=by
 rw [drop_cons s k h]
 cases hh:s.data.toList.drop (k + 1) with
 | nil => rw [quoF,if_neg h1]
 | cons d r => rw [quoF,if_neg h1,if_pos h2]
theorem quo_last (s:ByteArray) (k:Nat) (h:k + 1=s.size) (h1:s[k]'(by omega) ≠ 34):quoF (s.data.toList.drop k)=none:=by
 rw [drop_cons s k (by omega),List.drop_eq_nil_of_le (by rw [len_size]; omega),quoF,if_neg h1]
theorem quo_esc (s:ByteArray) (k:Nat) (h:k + 1 < s.size) (h1:s[k]=92):quoF (s.data.toList.drop k)=if s[k + 1]=34 ∨ s[k + 1]=92 then (quoF (s.data.toList.drop (k + 2))).map fun x => (x.1 + 2,s[k + 1] :: x.2) else none:=by
 rw [drop_cons s k (by omega),drop_cons s (k + 1) h,quoF,if_neg (by rw [h1]; decide),if_neg (by rw [h1]; decide),if_pos h1]
theorem quo_one (s:ByteArray) (k:Nat) (h:k < s.size) (h1:s[k] ≠ 34) (h2:¬ (s[k].toNat < 32 ∨ 126 < s[k].toNat)) (h3:s[k] ≠ 92):quoF (s.data.toList.drop k)=(quoF (s.data.toList.drop (k + 1))).map fun x => (x.1 + 1,s[k] :: x.2):=by
 rw [drop_cons s k h]
 cases hh:s.data.toList.drop (k + 1) with
 | nil => simp [quoF,h1]
 | cons d r => rw [quoF,if_neg h1,if_neg h2,if_neg h3]
theorem QInv.step {B:Nat} {w0 w3:World} {s:ByteArray} {k j:Nat} {acc:List UInt8} {wr:World} {c:UInt8} (h:QInv B w0 s k acc wr) (hj:k < j) (hle:j<=s.size) (hB:Lib.IsBuilder 97 5 B B (Lib.byteCells acc ++ [.int .u8 c.toNat]) w3) (hb:Below B wr w3)
  (hs:quoF (s.data.toList.drop k)=(quoF (s.data.toList.drop j)).map fun x => (x.1 + (j - k),c :: x.2)):QInv B w0 s j (acc ++ [c]) w3:=by
 have h1:=h.one
 refine ⟨by omega,hle,by simpa [Lib.byteCells] using hB,?_,by simp; have:=h.len; omega,h.below.trans hb,Nat.le_trans h.size hb.size⟩
 rw [h.is,hs,Option.map_map]
 congr 1
 funext x
 simp; omega
theorem quo_none {B:Nat} {w0 wr:World} {s:ByteArray} {k:Nat} {acc:List UInt8} (h:QInv B w0 s k acc wr) (hn:quoF (s.data.toList.drop k)=none):quoF (s.data.toList.drop 1)=none:=by rw [h.is,hn]; rfl
theorem b_undrewB {B C:Nat} {w w1:World} (h:Below B w.drew w1) (hC:C<=B):Below C w w1:=(show Below B w w1 from ⟨h.os,h.tape,h.output,h.size,h.block⟩).mono hC
set_option maxHeartbeats 1000000 in
theorem quote_any (s:ByteArray) (hs:s.size<=140737488351232) (h0:0 < s.size):∃ (k vk n e:Int) (u t:ByteArray),Tells (quoT (s.data.toList.drop 1)) s.data.toList k vk n e u t ∧
  ∀ w:World,Calls Tryz.prog 276 #[.string s] w fun x w' => x=.returned (.tuple #[.agg #[.int .i64 k,.int .i64 0,.string u,.int .i64 vk,.int .i64 n,.string t],.int .i64 e])/\Below w.heap.size w w':=by
 obtain ⟨k,vk,n,e,u,t,ht,hN,hS⟩:∃ (k vk n e:Int) (u t:ByteArray),Tells (quoT (s.data.toList.drop 1)) s.data.toList k vk n e u t ∧
   (quoF (s.data.toList.drop 1)=none->k=0/\vk=0/\n=0/\e=3/\u=⟨#[]⟩/\t=⟨#[]⟩) ∧
   (∀ m x,quoF (s.data.toList.drop 1)=some (m,x)->∀ W:World,Calls Tryz.prog 306 #[.string (s.extract 0 (m + 1)),.string ⟨x.toArray⟩] W fun z w' => z=.returned (.tuple #[.agg #[.int .i64 k,.int .i64 0,.string u,.int .i64 vk,.int .i64 n,.string t],.int .i64 e])/\Below W.heap.size W w'):=by
  cases hq:quoF (s.data.toList.drop 1) with
  | none => exact ⟨0,0,0,3,⟨#[]⟩,⟨#[]⟩,by unfold quoT; rw [hq]; exact ⟨rfl,by decide⟩,fun _ => ⟨rfl,rfl,rfl,rfl,rfl,rfl⟩,fun m x h => by cases h⟩
  | some y =>
   obtain ⟨m,x⟩:=y
   by_cases hx:40 < x.length
   ·refine ⟨0,0,0,1,⟨#[]⟩,⟨#[]⟩,by unfold quoT; rw [hq]; simp only; rw [if_pos hx]; exact ⟨rfl,by decide⟩,(fun h => by cases h),fun m' x' h W => ?_⟩
    injection h with h; injection h with h h'; subst h; subst h'
    exact ended_long _ ⟨x.toArray⟩ hx W
   ·refine ⟨3,3,0,0,s.extract 0 (m + 1),⟨x.toArray⟩,by unfold quoT; rw [hq]; simp only; rw [if_neg hx]; exact ⟨rfl,rfl,by simp [ByteArray.data_extract],rfl,rfl,rfl⟩,(fun h => by cases h),fun m' x' h W => ?_⟩
    injection h with h; injection h with h h'; subst h; subst h'
    exact ended_ok _ ⟨x.toArray⟩ (show x.length<=40 by omega) W
 refine ⟨k,vk,n,e,u,t,ht,fun w => ?_⟩
 have hI:QInv (w.heap.size + 1) (w.alloc (.cells #[.int .i64 0,.int .i64 0,.string ⟨#[]⟩,.int .i64 0,.int .i64 0,.string ⟨#[]⟩] 203)) s 1 [] ((w.alloc (.cells #[.int .i64 0,.int .i64 0,.string ⟨#[]⟩,.int .i64 0,.int .i64 0,.string ⟨#[]⟩] 203)).alloc (.cells #[.pointer none,.slice none 0 0] 97)) :=
  ⟨Nat.le_refl _,h0,by have:=Lib.fresh_isBuilder 97 5 (w.alloc (.cells #[.int .i64 0,.int .i64 0,.string ⟨#[]⟩,.int .i64 0,.int .i64 0,.string ⟨#[]⟩] 203)); simpa [Lib.byteCells] using this,by simp,by simp,by have:=b_new (w.alloc (.cells #[.int .i64 0,.int .i64 0,.string ⟨#[]⟩,.int .i64 0,.int .i64 0,.string ⟨#[]⟩] 203)) (.cells #[.pointer none,.slice none 0 0] 97); simpa using this,by simp⟩
 have HI0:=Lib.hid hI
 have HN:=Lib.hid hN
 have HS:=Lib.hid hS
 clear hI hN hS ht
 go_enter Tryz.func276,Tryz.ntmps276
 go_wp2_with fail
 go_loopw [5] (fun i wr => ∃ (k:Nat) (acc:List UInt8),i=.int .i64 k/\QInv (w.heap.size + 1) (w.alloc (.cells #[.int .i64 0,.int .i64 0,.string ⟨#[]⟩,.int .i64 0,.int .i64 0,.string ⟨#[]⟩] 203)) s k acc wr) (fun i _ => s.size - (intOf i).toNat)
 case atStart => exact ⟨1,[],rfl,HI0.out⟩
 case round =>
  obtain ⟨j,acc,rfl,hI⟩:=hrel
  obtain ⟨c1,d1⟩:=bcellB hI.below
  have hsz:=hI.size
  have hz:w.heap.size < wr.heap.size:=by omega
  have hbw:Below w.heap.size w wr:=b_then (by simpa using hI.below)
  have hle:=hI.le
  have hal:=hI.len
  have hone:=hI.one
  have hcl:(Lib.byteCells acc).length<=j:=by rw [Lib.byteCells_length]; exact hal
  have HI:=Lib.hid hI
  clear hI
  by_cases hlt:j < s.size
  ·by_cases h34:s[j]=34
   ·have t1:((s[j].toNat:Int) == 34)=true:=by rw [h34]; rfl
    have hq:quoF (s.data.toList.drop 1)=some (j,acc):=by
     rw [HI.out.is,quo_end s j hlt h34]; simp; omega
    have c2:=HS.out j acc hq
    have C2:=Lib.hid c2
    clear c2 hq h34
    have hi1:(0:Int)<=(j:Int) + 1:=by omega
    have hi2:(j:Int) + 1<=s.size:=by omega
    have hi3:((j:Int) + 1).toNat=j + 1:=by omega
    have hsum:IntKind.i64.wrap ((j:Int) + 1)=(j:Int) + 1:=IntWalk.i64_in _ (by omega)
    go_wp2_with fail
    go_region_held3 (fun _ => True) (trivial)
     (first | (go_at_call 53; (refine (Bld.string (w.heap.size + 1) _ acc _ (by exact HI.out.isB) (by exact hsz)).mono ?_); rintro e w1 ⟨rfl,hb1⟩; obtain ⟨c2,d2⟩:=bcellB hb1; have z2:w.heap.size < w1.heap.size:=Nat.lt_of_lt_of_le hz hb1.size) | (go_at_call 306; (refine (C2.out _).mono ?_); rintro e w2 ⟨rfl,hb2⟩; obtain ⟨c3,d3⟩:=bcell hb2; have z3:w.heap.size < w2.heap.size:=Nat.lt_of_lt_of_le z2 hb2.size))
    all_goals
     go_wp2_with fail
     refine bodyPost_ret (v:=.tuple #[.agg #[.int .i64 k,.int .i64 0,.string u,.int .i64 vk,.int .i64 n,.string t],.int .i64 e]) (by simp [results,Tryz.results276,go_sem,c1,c2,c3,z2]) rfl ⟨rfl,?_⟩
     exact b_set6 (hbw.trans ((b_undrewB hb1 (by omega)).trans (hb2.mono (by have:=z2; omega)))) _ (Nat.le_refl _) _ _ _ _ _ _
   ·have t1:((s[j].toNat:Int) == 34)=false:=by have:=byte_is s[j] 34 (by decide); rw [show ((34:Nat):Int)=34 from rfl] at this; rw [this]; exact decide_eq_false h34
    by_cases hlo:(s[j].toNat:Int) < 32
    ·have hno:=quo_none HI.out (quo_bad s j hlt h34 (.inl (by omega)))
     have hlo':decide ((s[j].toNat:Int) < 32)=true:=decide_eq_true hlo
     obtain ⟨rfl,rfl,rfl,rfl,rfl,rfl⟩:=HN.out hno
     clear hno
     go_wp2_with fail
     refine bodyPost_ret (v:=.tuple #[.agg #[.int .i64 0,.int .i64 0,.string ⟨#[]⟩,.int .i64 0,.int .i64 0,.string ⟨#[]⟩],.int .i64 3]) (by simp [results,Tryz.results276,go_sem,c1]) rfl ⟨rfl,?_⟩
     exact b_set6 hbw _ (Nat.le_refl _) _ _ _ _ _ _
    ·have hlo':decide ((s[j].toNat:Int) < 32)=false:=decide_eq_false hlo
     by_cases hhi:(126:Int) < s[j].toNat
     ·have hno:=quo_none HI.out (quo_bad s j hlt h34 (.inr (by omega)))
      have hhi':decide ((126:Int) < s[j].toNat)=true:=decide_eq_true hhi
      obtain ⟨rfl,rfl,rfl,rfl,rfl,rfl⟩:=HN.out hno
      clear hno
      go_wp2_with fail
      refine bodyPost_ret (v:=.tuple #[.agg #[.int .i64 0,.int .i64 0,.string ⟨#[]⟩,.int .i64 0,.int .i64 0,.string ⟨#[]⟩],.int .i64 3]) (by simp [results,Tryz.results276,go_sem,c1]) rfl ⟨rfl,?_⟩
      exact b_set6 hbw _ (Nat.le_refl _) _ _ _ _ _ _
     ·have hhi':decide ((126:Int) < s[j].toNat)=false:=decide_eq_false hhi
      by_cases h92:s[j]=92
      ·have t2:((s[j].toNat:Int) == 92)=true:=by rw [h92]; rfl
       by_cases hl2:j + 1 < s.size
       ·have hq:=quo_esc s j hl2 h92
        have t3:((j:Int) + 1 == s.size)=false:=by rw [beq_eq_false_iff_ne]; omega
        have u1:=byte_is s[j + 1] 34 (by decide)
        have u2:=byte_is s[j + 1] 92 (by decide)
        rw [show ((34:Nat):Int)=34 from rfl] at u1
        rw [show ((92:Nat):Int)=92 from rfl] at u2
        by_cases g1:s[j + 1]=34
        ·have v1:((s[j + 1].toNat:Int) != 34)=false:=by unfold bne; rw [u1]; exact congrArg not (decide_eq_true g1)
         have hq:quoF (s.data.toList.drop j)=(quoF (s.data.toList.drop (j + 2))).map fun x => (x.1 + (j + 2 - j),s[j + 1] :: x.2):=by
          rw [hq,if_pos (.inl g1),show j + 2 - j=2 by omega]
         clear h92 g1 u1 u2 h34
         have HQ:=Lib.hid hq
         clear hq
         go_wp2_with fail
         refine (Bld.writeByte (w.heap.size + 1) (w.heap.size + 1) _ _ _ HI.out.isB (by omega) hsz).mono ?_; rintro e w3 ⟨rfl,hB3,hb3⟩
         have hN:QInv (w.heap.size + 1) (w.alloc (.cells #[.int .i64 0,.int .i64 0,.string ⟨#[]⟩,.int .i64 0,.int .i64 0,.string ⟨#[]⟩] 203)) s (j + 2) (acc ++ [s[j + 1]]) w3:=HI.out.step (by omega) (by omega) hB3 hb3 HQ.out
         have HN3:=Lib.hid hN
         clear hN hB3 hb3
         go_wp2
         go_roundw
         case rel => exact ⟨j + 2,_,by go_num,HN3.out⟩
         case measure => simp [intOf]; omega
        ·have v1:((s[j + 1].toNat:Int) != 34)=true:=by unfold bne; rw [u1]; exact congrArg not (decide_eq_false g1)
         by_cases g2:s[j + 1]=92
         ·have v2:((s[j + 1].toNat:Int) != 92)=false:=by unfold bne; rw [u2]; exact congrArg not (decide_eq_true g2)
          have hq:quoF (s.data.toList.drop j)=(quoF (s.data.toList.drop (j + 2))).map fun x => (x.1 + (j + 2 - j),s[j + 1] :: x.2):=by
           rw [hq,if_pos (.inr g2),show j + 2 - j=2 by omega]
          clear h92 g1 g2 u1 u2 h34
          have HQ:=Lib.hid hq
          clear hq
          go_wp2_with fail
          refine (Bld.writeByte (w.heap.size + 1) (w.heap.size + 1) _ _ _ HI.out.isB (by omega) hsz).mono ?_; rintro e w3 ⟨rfl,hB3,hb3⟩
          have hN:QInv (w.heap.size + 1) (w.alloc (.cells #[.int .i64 0,.int .i64 0,.string ⟨#[]⟩,.int .i64 0,.int .i64 0,.string ⟨#[]⟩] 203)) s (j + 2) (acc ++ [s[j + 1]]) w3:=HI.out.step (by omega) (by omega) hB3 hb3 HQ.out
          have HN3:=Lib.hid hN
          clear hN hB3 hb3
          go_wp2
          go_roundw
          case rel => exact ⟨j + 2,_,by go_num,HN3.out⟩
          case measure => simp [intOf]; omega
         ·have v2:((s[j + 1].toNat:Int) != 92)=true:=by unfold bne; rw [u2]; exact congrArg not (decide_eq_false g2)
          have hno:=quo_none HI.out (hq.trans (if_neg (fun g => g.elim g1 g2)))
          clear h92 g1 g2 u1 u2 h34 hq
          obtain ⟨rfl,rfl,rfl,rfl,rfl,rfl⟩:=HN.out hno
          clear hno
          go_wp2_with fail
          refine bodyPost_ret (v:=.tuple #[.agg #[.int .i64 0,.int .i64 0,.string ⟨#[]⟩,.int .i64 0,.int .i64 0,.string ⟨#[]⟩],.int .i64 3]) (by simp [results,Tryz.results276,go_sem,c1]) rfl ⟨rfl,?_⟩
          exact b_set6 hbw _ (Nat.le_refl _) _ _ _ _ _ _
       ·have hno:=quo_none HI.out (quo_last s j (by omega) h34)
        have t3:((j:Int) + 1 == s.size)=true:=by rw [beq_iff_eq]; omega
        clear h92 h34
        obtain ⟨rfl,rfl,rfl,rfl,rfl,rfl⟩:=HN.out hno
        clear hno
        go_wp2_with fail
        refine bodyPost_ret (v:=.tuple #[.agg #[.int .i64 0,.int .i64 0,.string ⟨#[]⟩,.int .i64 0,.int .i64 0,.string ⟨#[]⟩],.int .i64 3]) (by simp [results,Tryz.results276,go_sem,c1]) rfl ⟨rfl,?_⟩
        exact b_set6 hbw _ (Nat.le_refl _) _ _ _ _ _ _
      ·have t2:((s[j].toNat:Int) == 92)=false:=by have:=byte_is s[j] 92 (by decide); rw [show ((92:Nat):Int)=92 from rfl] at this; rw [this]; exact decide_eq_false h92
       have hq:quoF (s.data.toList.drop j)=(quoF (s.data.toList.drop (j + 1))).map fun x => (x.1 + (j + 1 - j),s[j] :: x.2):=by
        rw [quo_one s j hlt h34 (by omega) h92,show j + 1 - j=1 by omega]
       clear h92 h34
       have HQ:=Lib.hid hq
       clear hq
       go_wp2_with fail
       refine (Bld.writeByte (w.heap.size + 1) (w.heap.size + 1) _ _ _ HI.out.isB (by omega) hsz).mono ?_; rintro e w3 ⟨rfl,hB3,hb3⟩
       have hN:QInv (w.heap.size + 1) (w.alloc (.cells #[.int .i64 0,.int .i64 0,.string ⟨#[]⟩,.int .i64 0,.int .i64 0,.string ⟨#[]⟩] 203)) s (j + 1) (acc ++ [s[j]]) w3:=HI.out.step (by omega) (by omega) hB3 hb3 HQ.out
       have HN3:=Lib.hid hN
       clear hN hB3 hb3
       go_wp2
       go_roundw
       case rel => exact ⟨j + 1,_,by go_num,HN3.out⟩
       case measure => simp [intOf]; omega
  ·have hno:=quo_none HI.out (quo_out s j (by omega))
   obtain ⟨rfl,rfl,rfl,rfl,rfl,rfl⟩:=HN.out hno
   clear hno
   go_wp2_with fail
   refine bodyPost_ret (v:=.tuple #[.agg #[.int .i64 0,.int .i64 0,.string ⟨#[]⟩,.int .i64 0,.int .i64 0,.string ⟨#[]⟩],.int .i64 3]) (by simp [results,Tryz.results276,go_sem,c1]) rfl ⟨rfl,?_⟩
   exact b_set6 hbw _ (Nat.le_refl _) _ _ _ _ _ _
end LexT
namespace RkM
set_option linter.unusedVariables false
def rk (r:List Int) (i:Nat):Int:=r.getD i 0
def nd (ns:List (List Nat)) (i:Nat):List Nat:=ns.getD i []
def aboveI (r:List Int):List Nat->Int->Int
 | [],a => a
 | i :: l,a => if rk r i=-1 then -1 else aboveI r l (max a (rk r i + 1))
def sweepN (ns:List (List Nat)) (r:List Int):Nat->List Int
 | 0 => r
 | k + 1 => (sweepN ns r k).set k (aboveI (sweepN ns r k) (nd ns k) 0)
def passN (ns:List (List Nat)):Nat->List Int
 | 0 => List.replicate ns.length (-1)
 | p + 1 => sweepN ns (passN ns p) ns.length
def rankF (ns:List (List Nat)):List Int:=passN ns ns.length
theorem above_un {r:List Int}:∀ (l:List Nat) (a:Int),(∃ i ∈ l,rk r i=-1)->aboveI r l a=-1
 | [],a,⟨i,h,_⟩ => by simp at h
 | j :: l,a,⟨i,h,e⟩ => by
  unfold aboveI
  by_cases hj:rk r j=-1
  ·rw [if_pos hj]
  ·rw [if_neg hj]
   rcases List.mem_cons.1 h with rfl | h
   ·exact absurd e hj
   ·exact above_un l _ ⟨i,h,e⟩
theorem above_ok {r:List Int}:∀ (l:List Nat) (a:Int),(∀ i ∈ l,0<=rk r i)->0<=a->a<=aboveI r l a/\(∀ i ∈ l,rk r i + 1<=aboveI r l a)/\(aboveI r l a=a ∨ ∃ i ∈ l,aboveI r l a=rk r i + 1)
 | [],a,_,_ => ⟨Int.le_refl _,fun i h => by simp at h,.inl rfl⟩
 | j :: l,a,h,ha => by
  have hj:=h j (by simp)
  unfold aboveI
  rw [if_neg (by omega)]
  obtain ⟨h1,h2,h3⟩:=above_ok l (max a (rk r j + 1)) (fun i hi => h i (by simp [hi])) (by omega)
  refine ⟨by omega,fun i hi => ?_,?_⟩
  ·rcases List.mem_cons.1 hi with rfl | hi
   ·omega
   ·exact h2 i hi
  ·rcases h3 with h3 | ⟨i,hi,e⟩
   ·by_cases hm:a<=rk r j + 1
    ·exact .inr ⟨j,by simp,by omega⟩
    ·exact .inl (by omega)
   ·exact .inr ⟨i,by simp [hi],e⟩
theorem above_congr {r s:List Int}:∀ (l:List Nat) (a:Int),(∀ i ∈ l,rk r i=rk s i)->aboveI r l a=aboveI s l a
 | [],_,_ => rfl
 | j :: l,a,h => by
  unfold aboveI
  rw [h j (by simp),above_congr l _ fun i hi => h i (by simp [hi])]
theorem above_le {r:List Int} {b:Int} (hb:0<=b) (h:∀ i,rk r i<=b):∀ (l:List Nat) (a:Int),a<=b + 1->aboveI r l a<=b + 1
 | [],a,ha => ha
 | j :: l,a,ha => by
  unfold aboveI
  have:=h j
  split
  ·omega
  ·exact above_le hb h l _ (by omega)
theorem above_ge {r:List Int} (h:∀ i,-1<=rk r i):∀ (l:List Nat) (a:Int),-1<=a->-1<=aboveI r l a
 | [],a,ha => ha
 | j :: l,a,ha => by
  unfold aboveI
  split
  ·omega
  ·exact above_ge h l _ (by omega)
theorem rk_set (r:List Int) (k:Nat) (v:Int) (i:Nat) (hk:k < r.length):rk (r.set k v) i=if i=k then v else rk r i:=by
 unfold rk
 rw [List.getD_eq_getElem?_getD,List.getD_eq_getElem?_getD,List.getElem?_set]
 by_cases h:i=k
 ·subst h; rw [if_pos rfl,if_pos hk,if_pos rfl]; rfl
 ·rw [if_neg (fun e => h e.symm),if_neg h]
theorem sweep_len (ns:List (List Nat)) (r:List Int):∀ k,(sweepN ns r k).length=r.length
 | 0 => rfl
 | k + 1 => by unfold sweepN; rw [List.length_set,sweep_len ns r k]
theorem pass_len (ns:List (List Nat)):∀ p,(passN ns p).length=ns.length
 | 0 => by unfold passN; rw [List.length_replicate]
 | p + 1 => by unfold passN; rw [sweep_len,pass_len ns p]
theorem rankF_len (ns:List (List Nat)):(rankF ns).length=ns.length:=pass_len ns _
def Bd (r:List Int) (b:Int):Prop:=∀ i,-1<=rk r i/\rk r i<=b
theorem bd_above {r:List Int} {b:Int} (h:Bd r b) (hb:0<=b) (l:List Nat):-1<=aboveI r l 0/\aboveI r l 0<=b + 1:=⟨above_ge (fun i => (h i).1) l 0 (by omega),above_le hb (fun i => (h i).2) l 0 (by omega)⟩
theorem bd_sweep {ns:List (List Nat)} {r:List Int} {b:Int} (h:Bd r b) (hb:0<=b) (hl:r.length=ns.length):∀ k:Nat,k<=ns.length->Bd (sweepN ns r k) (b + (k:Int))
 | 0,_ => fun i => by have:=h i; show -1<=rk r i/\rk r i<=b + 0; omega
 | k + 1,hk => fun i => by
  have ih:=bd_sweep h hb hl k (by omega)
  have hv:=bd_above ih (by omega) (nd ns k)
  unfold sweepN
  rw [rk_set _ _ _ _ (by rw [sweep_len]; omega)]
  have:=ih i
  split <;> omega
theorem bd_pass (ns:List (List Nat)):∀ p:Nat,Bd (passN ns p) ((p:Int) * (ns.length:Int))
 | 0 => fun i => by
  unfold passN rk
  rw [List.getD_eq_getElem?_getD,List.getElem?_replicate]
  split <;> simp
 | p + 1 => by
  have:=bd_sweep (bd_pass ns p) (Int.mul_nonneg (by omega) (by omega)) (pass_len ns p) ns.length (Nat.le_refl _)
  intro i
  have h:=this i
  unfold passN
  rw [show ((p + 1:Nat):Int) * (ns.length:Int)=(p:Int) * (ns.length:Int) + (ns.length:Int) by rw [Int.natCast_add,Int.add_mul]; simp]
  exact h
structure Con (ns:List (List Nat)) (r:List Int):Prop where
 len:r.length=ns.length
 lo:∀ i,-1<=rk r i
 eq:∀ i,i < ns.length->rk r i ≠ -1->aboveI r (nd ns i) 0=rk r i
def Mono (r s:List Int):Prop:=∀ i,rk r i ≠ -1->rk s i=rk r i
theorem Mono.refl (r:List Int):Mono r r:=fun _ _ => rfl
theorem Mono.trans {a b c:List Int} (h:Mono a b) (g:Mono b c):Mono a c:=fun i hi => by
 have h1:=h i hi
 rw [g i (by rw [h1]; exact hi),h1]
theorem above_all {r:List Int} {l:List Nat} {a:Int} (h:aboveI r l a ≠ -1):∀ i ∈ l,rk r i ≠ -1:=fun i hi e => h (above_un l a ⟨i,hi,e⟩)
theorem con_step {ns:List (List Nat)} {r:List Int} (h:Con ns r) {k:Nat} (hk:k < ns.length):Con ns (r.set k (aboveI r (nd ns k) 0))/\Mono r (r.set k (aboveI r (nd ns k) 0)):=by
 have hkl:k < r.length:=by rw [h.len]; exact hk
 have hm:Mono r (r.set k (aboveI r (nd ns k) 0)):=fun i hi => by
  rw [rk_set _ _ _ _ hkl]
  by_cases e:i=k
  ·subst e; rw [if_pos rfl,h.eq i hk hi]
  ·rw [if_neg e]
 refine ⟨⟨by rw [List.length_set,h.len],fun i => ?_,fun i hi hne => ?_⟩,hm⟩
 ·rw [rk_set _ _ _ _ hkl]
  split
  ·exact above_ge h.lo _ _ (by omega)
  ·exact h.lo i
 ·have key:rk (r.set k (aboveI r (nd ns k) 0)) i=aboveI r (nd ns i) 0:=by
   rw [rk_set _ _ _ _ hkl] at hne ⊢
   by_cases e:i=k
   ·subst e; rw [if_pos rfl]
   ·rw [if_neg e] at hne ⊢; exact (h.eq i hi hne).symm
  rw [key] at hne ⊢
  exact above_congr _ _ fun j hj => hm j (above_all hne j hj)
theorem con_sweep {ns:List (List Nat)} {r:List Int} (h:Con ns r):∀ k:Nat,k<=ns.length->Con ns (sweepN ns r k)/\Mono r (sweepN ns r k)
 | 0,_ => ⟨h,Mono.refl _⟩
 | k + 1,hk => by
  obtain ⟨h1,h2⟩:=con_sweep h k (by omega)
  obtain ⟨h3,h4⟩:=con_step h1 (k:=k) (by omega)
  exact ⟨h3,h2.trans h4⟩
theorem mono_sweep {ns:List (List Nat)} {r:List Int} (h:Con ns r) (k:Nat):∀ m:Nat,k + m<=ns.length->Mono (sweepN ns r k) (sweepN ns r (k + m))
 | 0,_ => Mono.refl _
 | m + 1,hm => by
  have h1:k + m < ns.length:=by omega
  exact (mono_sweep h k m (by omega)).trans (con_step (con_sweep h (k + m) (by omega)).1 h1).2
theorem con_pass (ns:List (List Nat)):∀ p,Con ns (passN ns p)
 | 0 => ⟨pass_len ns 0,fun i => (bd_pass ns 0 i).1,fun i hi hne => by
   exfalso; apply hne
   unfold passN rk
   rw [List.getD_eq_getElem?_getD,List.getElem?_replicate,if_pos hi]; rfl⟩
 | p + 1 => (con_sweep (con_pass ns p) _ (Nat.le_refl _)).1
def cnt (p:Nat->Bool):Nat->Nat
 | 0 => 0
 | n + 1 => cnt p n + (if p n=true then 1 else 0)
theorem cnt_le (p q:Nat->Bool):∀ n,(∀ i,i < n->p i=true->q i=true)->cnt p n<=cnt q n
 | 0,_ => Nat.le_refl _
 | n + 1,h => by
  have:=cnt_le p q n fun i hi => h i (by omega)
  have h2:=h n (by omega)
  unfold cnt
  by_cases hp:p n=true
  ·rw [if_pos hp,if_pos (h2 hp)]; omega
  ·rw [if_neg hp]; omega
theorem cnt_lt (p q:Nat->Bool):∀ n,(∀ i,i < n->p i=true->q i=true)->(∃ i,i < n/\q i=true/\p i=false)->cnt p n < cnt q n
 | 0,_,⟨i,h,_⟩ => absurd h (by omega)
 | n + 1,h,⟨i,hi,hq,hp⟩ => by
  unfold cnt
  by_cases e:i=n
  ·subst e
   have:=cnt_le p q i fun j hj => h j (by omega)
   rw [if_pos hq,if_neg (by rw [hp]; decide)]; omega
  ·have:=cnt_lt p q n (fun j hj => h j (by omega)) ⟨i,by omega,hq,hp⟩
   have h2:=h n (by omega)
   by_cases hp:p n=true
   ·rw [if_pos hp,if_pos (h2 hp)]; omega
   ·rw [if_neg hp]; omega
theorem cnt_bd (p:Nat->Bool):∀ n,cnt p n<=n
 | 0 => Nat.le_refl _
 | n + 1 => by unfold cnt; have:=cnt_bd p n; split <;> omega
theorem cnt_all (p:Nat->Bool) (n:Nat) (h:n<=cnt p n):∀ i,i < n->p i=true:=fun i hi => by
 by_cases hp:p i=true
 ·exact hp
 ·have h1:=cnt_lt p (fun _ => true) n (fun _ _ _ => rfl) ⟨i,hi,rfl,by simpa using hp⟩
  have h2:=cnt_bd (fun _ => true) n
  omega
def Fix (ns:List (List Nat)) (r:List Int):Prop:=∀ i,i < ns.length->aboveI r (nd ns i) 0=rk r i
def isR (r:List Int) (i:Nat):Bool:=decide (rk r i ≠ -1)
theorem fix_sweep {ns:List (List Nat)} {r:List Int} (hl:r.length=ns.length) (h:Fix ns r):∀ k:Nat,k<=ns.length->∀ i,rk (sweepN ns r k) i=rk r i
 | 0,_ => fun _ => rfl
 | k + 1,hk => fun i => by
  have ih:=fix_sweep hl h k (by omega)
  unfold sweepN
  rw [rk_set _ _ _ _ (by rw [sweep_len]; omega),ih]
  by_cases e:i=k
  ·subst e
   rw [if_pos rfl,above_congr _ _ (fun j _ => ih j),h i (by omega)]
  ·rw [if_neg e]
theorem fix_of_eq {ns:List (List Nat)} {r s:List Int} (h:Fix ns r) (e:∀ i,rk s i=rk r i):Fix ns s:=fun i hi => by
 rw [above_congr _ _ (fun j _ => e j),h i hi,e]
theorem still_fix {ns:List (List Nat)} {r:List Int} (hc:Con ns r) (h:∀ i,i < ns.length->rk (sweepN ns r ns.length) i ≠ -1->rk r i ≠ -1):Fix ns r:=fun i hi => by
 have hk:∀ k,k<=ns.length->∀ j,rk (sweepN ns r k) j=rk r j:=fun k hk j => by
  obtain ⟨h1,h2⟩:=con_sweep hc k hk
  by_cases hr:rk r j=-1
  ·by_cases hs:rk (sweepN ns r k) j=-1
   ·rw [hs,hr]
   ·exfalso
    have h3:=mono_sweep hc k (ns.length - k) (by omega) j hs
    rw [show k + (ns.length - k)=ns.length by omega] at h3
    by_cases hj:j < ns.length
    ·exact h j hj (by rw [h3]; exact hs) hr
    ·have:rk r j=0:=by unfold rk; rw [List.getD_eq_getElem?_getD,List.getElem?_eq_none (by rw [hc.len]; omega)]; rfl
     omega
  ·exact h2 j hr
 have h1:=hk (i + 1) (by omega) i
 unfold sweepN at h1
 rw [rk_set _ _ _ _ (by rw [sweep_len,hc.len]; exact hi),if_pos rfl,above_congr _ _ (fun j _ => hk i (by omega) j)] at h1
 exact h1
theorem pass_fix (ns:List (List Nat)):∀ p,Fix ns (passN ns p) ∨ p<=cnt (isR (passN ns p)) ns.length
 | 0 => .inr (Nat.zero_le _)
 | p + 1 => by
  have hc:=con_pass ns p
  obtain ⟨_,hm⟩:=con_sweep hc ns.length (Nat.le_refl _)
  rcases pass_fix ns p with h | h
  ·exact .inl (fix_of_eq h (fix_sweep (pass_len ns p) h ns.length (Nat.le_refl _)))
  ·by_cases hx:∃ i,i < ns.length/\isR (passN ns (p + 1)) i=true/\isR (passN ns p) i=false
   ·right
    have:=cnt_lt (isR (passN ns p)) (isR (passN ns (p + 1))) ns.length (fun i hi hp => by
     unfold isR at hp ⊢
     have hp:=of_decide_eq_true hp
     refine decide_eq_true ?_
     show rk (sweepN ns (passN ns p) ns.length) i ≠ -1
     rw [hm i hp]; exact hp) hx
    omega
   ·left
    have hf:Fix ns (passN ns p):=still_fix hc fun i hi hs hr => hx ⟨i,hi,decide_eq_true hs,by unfold isR; rw [hr]; rfl⟩
    exact fix_of_eq hf (fix_sweep (pass_len ns p) hf ns.length (Nat.le_refl _))
theorem rankF_fix (ns:List (List Nat)):Fix ns (rankF ns):=by
 rcases pass_fix ns ns.length with h | h
 ·exact h
 ·intro i hi
  have:=cnt_all _ _ h i hi
  exact (con_pass ns ns.length).eq i hi (of_decide_eq_true this)
theorem rankF_ok {ns:List (List Nat)} {m:Nat->Nat} (h:∀ i,i < ns.length->∀ j ∈ nd ns i,j < ns.length/\m j < m i):∀ (b i:Nat),m i<=b->i < ns.length->0<=rk (rankF ns) i/\rk (rankF ns) i<=(m i:Int)
 | b,i,hb,hi => by
  have hn:∀ j ∈ nd ns i,0<=rk (rankF ns) j/\rk (rankF ns) j<=(m j:Int):=fun j hj => by
   obtain ⟨h1,h2⟩:=h i hi j hj
   exact rankF_ok h (b - 1) j (by omega) h1
  obtain ⟨h1,h2,h3⟩:=above_ok (nd ns i) 0 (fun j hj => (hn j hj).1) (by omega)
  rw [rankF_fix ns i hi] at h1 h2 h3
  refine ⟨h1,?_⟩
  rcases h3 with h3 | ⟨j,hj,e⟩
  ·omega
  ·have:=(hn j hj).2
   have:=(h i hi j hj).2
   omega
termination_by b i => m i
decreasing_by exact h2
end RkM
end Go.Proofs.YtepikijjagoehaaGreatDoor
