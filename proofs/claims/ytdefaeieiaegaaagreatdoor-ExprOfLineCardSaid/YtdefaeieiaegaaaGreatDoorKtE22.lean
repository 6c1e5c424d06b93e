/- TxOne PbRead: what these laws name of them. -/
import Derived.Deep.RegionHeld3
import Derived.Deep.DeepCutAuto
import Derived.IntWalk
import Derived.RangeFuncNested
import Derived.RangeFuncBound
import Derived.RangeFuncCalls
import Derived.RangeFuncLeaves
import Derived.Shelf.Abstract
import Derived.Shelf.RegionOpen
import Derived.WalkKit
import Derived.OwnWalkIn
import Derived.TacticsInMore
import Derived.LoopNIn
import Derived.LoopIn
import Derived.Deep.QuietTactic
import Derived.Deep.RegionWith
import Derived.ChangeOld
import Derived.Deep.DrawnRows
import Derived.LaidMore
import Derived.BigQuiet
import Derived.RangeFuncBox
import Derived.Test.YtdefaeieiaegaaaGreatDoorProg
import Derived.ProofKit
import Derived.Lib.Hide
import Derived.Outline
import Derived.Below
import Derived.WalkSpells
import Derived.WalkLawsBesides
import Derived.Laws.OwnMore
import Derived.OwnWalk
import Derived.ChangeAlike
import GoSem.Claim
import Derived.Lib.Bytealg
import Derived.Lib.Small
import Derived.Lib.AtoiAll
import Derived.Deep.Draws
import Derived.LaidLaws
import Derived.ChangeArms
import Derived.Lib.LaidTab
import Derived.WideShapes
import Derived.Test.YtdefaeieiaegaaaGreatDoorChecked
import Derived.WalkSmall
import Derived.Deep.AppendLies
import Derived.Deep.RegionLaw
import Derived.RegionTactic
import Derived.BigRegion
import Derived.Laws.Pointers
import Derived.Lib.ConvBytes
import Derived.Lib.AtoiErrMem
import Derived.Laws.IdiomStrings
import Derived.Deep.LoopGhost
import Derived.Lib.UnsafeStr
import Derived.Lib.ItoaNum
import Derived.Lib.AtoiTie
import Derived.Lib.ItoaMem
import Derived.Lib.AppendIntMem
import Derived.Lib.ItoaLen
import Derived.Shelf.Strings.Builder1
import Derived.Shelf.Strings.Builder2
import Derived.Shelf.Strings.OnBuilder
import Derived.Shelf.Small.Bits
import Derived.Shelf.Small.Wraps
import Derived.Shelf.Strings.BuilderF
import Derived.Shelf.Strings.BuilderK
import Derived.Shelf.Strconv.Atoi
import Derived.Shelf.Strconv.Itoa0
import Derived.Shelf.Strconv.Itoa1
import Derived.Shelf.LaysM
import Derived.Shelf.Strconv.Itoa2
import Derived.Shelf.Strconv.Itoa3
import Derived.Shelf.Strconv.AtoiErrFast
import Derived.Shelf.Strconv.ParseIntEmpty
import Derived.Shelf.Strconv.AtoiFail
import Derived.Shelf.Strconv.Clone
import Derived.Shelf.Strconv.SyntaxError
import Derived.Shelf.LaysC
import Derived.Shelf.Strconv.ToError
import Derived.Shelf.Strconv.Lower
import Derived.Shelf.Strconv.ParseUint10
import Derived.Shelf.Strconv.ParseUint10Empty
import Derived.Shelf.Strconv.ParseUint10Any
import Derived.Shelf.Strconv.ParseInt10
import Derived.Shelf.Strconv.AtoiLong
import Derived.Shelf.Strconv.AtoiInnerAll
import Derived.Shelf.Strconv.RangeError
import Derived.Shelf.Strconv.ToErrorRange
import Derived.Shelf.Strconv.AtoiAll
import Derived.Shelf.Strconv.ErrVarAll
import Derived.Shelf.Strings.Search1
import Derived.Shelf.Strings.Search2
import Derived.Shelf.Strings.Search3
import Derived.Shelf.Strings.Cut
import Derived.Shelf.Strings.Count
import Derived.Shelf.Strings.Shaped
import Derived.Shelf.Strings.Prefix
import Derived.Shelf.Strings.Split
import Derived.Shelf.Bits.Mul64
import Derived.Shelf.Unicode.DecodeSlow
import Derived.Shelf.Slices.Turned
import Derived.Shelf.Slices.Equal
import Derived.Ground.Names2Prog
import Derived.Shelf.Slices.Clone
import Derived.Shelf.Slices.Empties2
import Derived.Ground.SlgfProg
import Derived.Shelf.SlicesE.IndexFunc
import Derived.Ground.SlgmProg
import Derived.Shelf.SortM.Plain
import Derived.Shelf.SortM.SortNone
import Derived.Deep.CutBlock
import Derived.Lib.IndexMore
import Derived.Lib.Split
import Derived.Lib.Strings
import Derived.Lib.ReplaceLaws
import Derived.Lib.CountLaws
import Derived.Maps.Own
import Derived.Maps.OwnSet
import Derived.Maps.AppendAt
import Derived.Maps.Range
import Derived.Maps.RangeWalk
import Derived.Laws.AppendOwnNone
import Derived.Sort.EncStr
import Derived.StringKeys
import Derived.Lib.SplitLaws
import Derived.Laws.CopyOwn
import Derived.RangeFuncRecord
import Derived.Calls
import Derived.Orders
import Derived.OrdersHeld
import Derived.RangeFuncWrites
import Derived.Maps.OwnIn
import Derived.Shelf.SlIter.Nil
import Derived.Ground.GgzProg
import Derived.Laws.Tables
import Derived.Laws.Rows
import Derived.Tactics
import Derived.Tactics2
import Derived.Defers
import Derived.Recover
import Derived.RegionDies
import Derived.Deep.MidRow
import Derived.Deep.Slices
import Derived.OpenShut
import Derived.ChangeSame
import Derived.DataReads
import Derived.Test.YtdefaeieiaegaaaGreatDoorKtE07
import Derived.Test.YtdefaeieiaegaaaGreatDoorKtE17
import Derived.Test.YtdefaeieiaegaaaGreatDoorKtE21
namespace Go.Proofs.YtdefaeieiaegaaaGreatDoor
set_option linter.unusedVariables false
namespace Frm
end Frm
namespace FrmT
end FrmT
namespace GenV
end GenV
namespace KpS
end KpS
namespace PgF
end PgF
namespace RawN
end RawN
namespace RkK
end RkK
namespace RkS
end RkS
namespace TxO1
open Go.RowKit
open ValM LexM NumM ExM NmM NmG NmT NmO NmI ShowM PrM Ty Kit ExL ExP ExN ExC RawV Within RawL RawN GenL Gen GenT GenV FrmM Frm FldP FldR FldC FrmT FrmO TyM PgM PgA PgF RkM RkA RkD RkO RkS RkK CycO RkY ShT ShE TxM TxR TxP TxT TxQ TxN TxF TxG TxD TxU TxK KpS PsE PrU
set_option linter.unusedVariables false
def oneE (x:Ex) (B:Option Addr) (m cp:Nat) (kind:Int):FE:=⟨⟨#[97]⟩,2,kind,x,B,m,cp⟩
def oneP:PE:=⟨⟨#[112]⟩,[⟨#[97]⟩],none,1,zeroX,none,0,0⟩
theorem one_x (x:Ex) (B:Option Addr) (m cp:Nat) (kind:Int):xOf [oneE x B m cp kind] 0=x:=xOf_at [oneE x B m cp kind] 0 (by simp)
theorem one_fields {x:Ex} {kind:Int} (hx:Gn [] 3 kind x) (k1:1<=kind) (k3:kind<=3) (B:Option Addr) (m cp:Nat):checkF ([oneE x B m cp kind].map FE.fd) (xOf [oneE x B m cp kind])=0:=by
 obtain ⟨hck,_,_,_⟩:=gn_check (fs:=[]) (fun f hf => by cases hf) hx
 have hty:∀ G,Ex.ty G x=(kind,0):=fun G => gn_ty2 (fs:=[]) (fun f hf => by cases hf) 3 kind x k1 k3 hx
 have h1:scan (ownE ([oneE x B m cp kind].map FE.fd) (xOf [oneE x B m cp kind])) 1=0:=by
  refine scan_zero 1 fun j hj => ?_
  obtain rfl:j=0:=by omega
  unfold ownE
  rw [dif_pos (by simp),one_x]
  have hr:rightE ([oneE x B m cp kind].map FE.fd)[0] x=0:=by
   show rightE (oneE x B m cp kind).fd x=0
   unfold rightE
   show (if LexB.nameE (⟨#[97]⟩:ByteArray).data.toList ≠ 0 then _ else if isT 2=true/\isT kind=true then (if (2:Int)=1 then _ else x.checkE) else 2)=0
   rw [if_neg (show ¬ LexB.nameE (⟨#[97]⟩:ByteArray).data.toList ≠ 0 by decide),if_pos ⟨isT_iff.2 ⟨show (1:Int)<=2 by decide,show (2:Int)<=3 by decide⟩,isT_iff.2 ⟨k1,k3⟩⟩,if_neg (show ¬ (2:Int)=1 by decide)]
   exact hck
  rw [if_pos hr,if_neg (Nat.not_lt_zero _)]
 have h2:scan (typE ([oneE x B m cp kind].map FE.fd) (xOf [oneE x B m cp kind])) 1=0:=by
  refine scan_zero 1 fun j hj => ?_
  obtain rfl:j=0:=by omega
  unfold typE
  rw [dif_pos (by simp),one_x]
  show srcE _ (oneE x B m cp kind).fd x=0
  unfold srcE
  show (if (2:Int)=2 then fitsT _ x kind else _)=0
  rw [if_pos rfl]
  unfold fitsT ofT
  rw [if_pos hck,hty]
  show (if (0:Int)=0 then (if kind=kind then (0:Int) else 9) else 0)=0
  rw [if_pos rfl,if_pos rfl]
 unfold checkF
 rw [if_neg (show ¬ 14 < ([oneE x B m cp kind].map FE.fd).length by simp)]
 show (if scan _ 1=0 then scan _ 1 else scan _ 1)=0
 rw [if_pos h1]
 exact h2
theorem one_pages (x:Ex) (kind:Int) (B:Option Addr) (m cp:Nat):checkP ([oneE x B m cp kind].map FE.fd) [oneP]=0:=by
 have hat:atF ([oneE x B m cp kind].map FE.fd) ⟨#[97]⟩=0:=by
  show atF [(oneE x B m cp kind).fd] ⟨#[97]⟩=0
  unfold atF
  rw [if_pos (show (oneE x B m cp kind).fd.nm=⟨#[97]⟩ from rfl)]
 have hnm:scan (nameE ([oneE x B m cp kind].map FE.fd) (metP [oneP] 0) oneP.fs) oneP.fs.length=0:=by
  show scan _ 1=0
  refine scan_zero 1 fun j hj => ?_
  obtain rfl:j=0:=by omega
  unfold nameE
  rw [dif_pos (show 0 < oneP.fs.length by decide)]
  show (if atF _ ⟨#[97]⟩ < _ then _ else _)=_
  rw [hat,if_pos (by simp),if_neg (by decide)]
 unfold checkP
 rw [if_neg (by decide)]
 show scan _ 1=0
 refine scan_zero 1 fun j hj => ?_
 obtain rfl:j=0:=by omega
 unfold pageE
 rw [dif_pos (by decide)]
 show (if LexB.nameE oneP.nm.data.toList=0 then (if pAt [oneP] oneP.nm < 0 then 6 else if scan (nameE _ (metP [oneP] 0) oneP.fs) oneP.fs.length=0 then (if bareB oneP.x.d oneP.m=true then 0 else fitsT _ oneP.x 2) else _) else _)=0
 rw [if_pos (by decide),if_neg (Nat.not_lt_zero _),if_pos hnm,if_pos (by decide)]
theorem one_ok {x:Ex} {kind:Int} {d:Nd} {B:Option Addr} {m:Nat} {w:World} (hx:Gn [] 3 kind x) (his:Is w x d B m) (k1:1<=kind) (k3:kind<=3) (cp:Nat):FormOk w [oneE x B m cp kind] [oneP] (xOf [oneE x B m cp kind]):=by
 refine ⟨fun i hi => ?_,fun i hi => ?_,srcs_xOf _,one_fields hx k1 k3 B m cp,one_pages x kind B m cp⟩
 ·obtain rfl:i=0:=by simp at hi; omega
  show Is w x x.d B m
  rw [Prn.is_d his]; exact his
 ·obtain rfl:i=0:=by simp at hi; omega
  exact (isP_leaf (fun _ => True) w zeroN none (Nat.zero_le _) (Nat.zero_le _)).is
theorem one_rank {x:Ex} {kind:Int} (hx:Gn [] 3 kind x) (k1:1<=kind) (k3:kind<=3) (B:Option Addr) (m cp:Nat):rankE ([oneE x B m cp kind].map FE.fd) (xOf [oneE x B m cp kind])=0:=by
 have hrf:Ex.refs x=[]:=List.eq_nil_iff_forall_not_mem.2 fun s hs => by
  obtain ⟨f,hf,_⟩:=gn_refs 3 kind x hx s hs
  cases hf
 unfold rankE
 rw [if_pos (one_fields hx k1 k3 B m cp),if_pos]
 intro i hi e
 have:=(rankF_ok (ns:=needsF ([oneE x B m cp kind].map FE.fd) (xOf [oneE x B m cp kind])) (m:=fun _ => 0) (fun k hk j hj => by
  rw [needsF_len] at hk
  rw [needsF_nd _ _ _ hk] at hj
  obtain rfl:k=0:=by simp at hk; omega
  unfold needF at hj
  rw [dif_pos hk,one_x] at hj
  have h0:ofL x=[]:=by unfold ofL; rw [hrf]; split <;> rfl
  rw [h0] at hj
  have hj:j ∈ (if (2:Int)=1 then [] else ([]:List Nat)):=hj
  rw [if_neg (by decide)] at hj
  cases hj) 0 i (Nat.le_refl _) (by rw [needsF_len]; exact hi)).1
 have e:rk (rankF (needsF ([oneE x B m cp kind].map FE.fd) (xOf [oneE x B m cp kind]))) i=-1:=e
 rw [e] at this
 exact absurd this (by decide)
def oneL (kind:Int) (s:List UInt8):List UInt8:=[102,111,114,109,117,108,97,32,97] ++ (tyW kind ++ ([32,61,32] ++ (s ++ [10,112,97,103,101,32,112,58,32,97])))
theorem one_text (x:Ex) (B:Option Addr) (m cp:Nat) (kind:Int):formL [oneE x B m cp kind] [oneP]=oneL kind (Ex.txt x):=by
 show joinN [fieldL [97] 2 kind (Ex.txt x),pageL [112] [[97]] none]=_
 unfold oneL
 show fieldL [97] 2 kind (Ex.txt x) ++ (10 :: pageL [112] [[97]] none)=_
 unfold fieldL
 rw [if_pos (by decide)]
 have e:pageL [112] [[97]] none=[112,97,103,101,32,112,58,32,97]:=by decide
 rw [e]
 show kdW 2 ++ ([97] ++ (tyW kind ++ ([32,61,32] ++ Ex.txt x))) ++ _=_
 have e2:kdW 2=[102,111,114,109,117,108,97,32]:=by decide
 rw [e2]
 simp only [List.append_assoc,List.cons_append,List.nil_append]
theorem one_rd {w:World} {x:Ex} {kind:Int} {d:Nd} {B:Option Addr} {m:Nat} (hx:Gn [] 3 kind x) (his:Is w x d B m) (k1:1<=kind) (k3:kind<=3) (cp:Nat) :
  if (Ex.txt x).length<=160 then rdAll pfR (linesF ([oneE x B m cp kind].map flE) ([oneP].map plE))=((0,0),([oneE x B m cp kind].map flE,([oneP].map plE).map (·.1))) else (rdAll pfR (linesF ([oneE x B m cp kind].map flE) ([oneP].map plE))).1.2=1:=by
 have hok:=one_ok hx his k1 k3 cp
 obtain ⟨hck,_,_,_⟩:=gn_check (fs:=[]) (fun f hf => by cases hf) hx
 have hb:(plE oneP).2=false:=by decide
 split
 ·rename_i hl
  refine rd_form _ _ hok.fl.1 hok.pl.1 (fun f hf hk => ?_) (fun p hp hk => ?_)
  ·obtain rfl:f=flE (oneE x B m cp kind):=by simpa using hf
   exact pf_fine hck hl
  ·obtain rfl:p=plE oneP:=by simpa using hp
   rw [hb] at hk; cases hk
 ·rename_i hl
  have hfl:=hok.fl.1 (flE (oneE x B m cp kind)) (by simp)
  unfold linesF rdAll
  show (rdFrom pfR 0 ([],[]) (flL (flE (oneE x B m cp kind)) :: [plL (plE oneP)])).1.2=1
  rw [rd_bad (e:=1) (o:=none) (by
   unfold rdLine flL
   rw [line_field _ hfl.nm hfl.k hfl.t,if_pos (show 1 < (flE (oneE x B m cp kind)).k from (by decide:(1:Int) < 2))]
   have:pfR (Ex.txt (flE (oneE x B m cp kind)).x)=(noX,1):=pf_long (by show 160 < (Ex.txt x).length; omega)
   simp only [this]
   rfl) (by decide)]
theorem one_read {w:World} {x:Ex} {kind:Int} {d:Nd} {B:Option Addr} {m:Nat} (hx:Gn [] 3 kind x) (his:Is w x d B m) (k1:1<=kind) (k3:kind<=3) {e:Ending} {w':World} (h:ReadOut (oneL kind (Ex.txt x)) w e w') :
  ∃ (GA QA:Option Addr) (gn gc qn qc:Nat) (kl er:Int),e=.returned (.tuple #[.agg #[.slice GA gn gc,.slice QA qn qc],.int .i64 kl,.int .i64 er])/\Below w.heap.size w w' ∧
   (((Ex.txt x).length<=160/\er=0/\gn=1/\∃ f:GenL.Fd,Flds w' GA [f]/\Is w' x f.d f.A f.n) ∨ (160 < (Ex.txt x).length/\er=1)):=by
 have hok:=one_ok hx his k1 k3 0
 have hrd:=one_rd hx his k1 k3 0
 have hrk:=one_rank hx k1 k3 B m 0
 rw [← one_text x B m 0 kind] at h
 obtain ⟨hb,h⟩:=h
 rw [hok.split] at h
 have hl2:(linesF ([oneE x B m 0 kind].map flE) ([oneP].map plE)).length=2:=rfl
 by_cases hl:(Ex.txt x).length<=160
 ·rw [if_pos hl] at hrd
  rcases h with ⟨h1,_⟩ | ⟨_,h2,_⟩ | ⟨_,_,es',ps',FA,fc,PA,pc,e1,e2,hin,hfi,rfl⟩
  ·omega
  ·rw [hrd] at h2; exact absurd rfl h2
  ·rw [hrd] at e1 e2
   have e1:es'.map flE=[oneE x B m 0 kind].map flE:=e1
   have e2':pls [oneP]=pls ps':=by
    rw [e2]; unfold pls; rw [List.map_map]; rfl
   have hpp:PIs' w' ps':=fun i hi => (hin.ok _ (List.getElem_mem hi)).skip
   have hfe:formE (es'.map FE.fd) (xE es') ps'=0:=by
    unfold formE
    have hr:rankE (es'.map FE.fd) (xE es')=0:=by rw [← rank_same e1.symm hok.fi hfi (srcs_xOf _) (srcs_xE es')]; exact hrk
    rw [if_pos hr]
    have hp:=pls_of (w:=w) (w':=w') (ps:=[oneP]) (ps':=ps') e2' hok.pi hpp
    rw [← checkP_same e1.symm hp]
    exact hok.pages
   rw [if_pos hfe]
   have hn:es'.length=1:=by have:=congrArg List.length e1; simpa using this
   refine ⟨_,_,_,_,_,_,_,_,rfl,hb,.inl ⟨hl,rfl,hn,es'[0].fd,?_,?_⟩⟩
   ·have e9:es'.map FE.fd=[es'[0].fd]:=by
     match es',hn with
     | [a],_ => rfl
    rw [← e9]; exact hin.fl
   ·obtain ⟨_,_,_,hx9⟩:=fl_same (at_fl e1 0 (by omega) (by simp))
    have:=hfi 0 (by omega)
    have hx9:es'[0].x=x:=hx9
    rw [hx9] at this
    show Is w' x es'[0].x.d es'[0].B es'[0].m
    rw [hx9]; exact this
 ·rw [if_neg hl] at hrd
  rcases h with ⟨h1,_⟩ | ⟨_,h2,rfl⟩ | ⟨_,h2,_⟩
  ·omega
  ·rw [hrd]
   exact ⟨_,_,_,_,_,_,_,_,rfl,hb,.inr ⟨by omega,rfl⟩⟩
  ·rw [hrd] at h2; exact absurd h2 (by decide)
end TxO1
namespace PbR
open ValM LexM ExM PrM PsM PbL PbT PbP PsE
set_option linter.unusedVariables false
theorem bt_ne {x:Ex} (h:x.okN):Ex.bt x ≠ []:=by
 obtain ⟨d,l⟩:=x
 rw [bt_mk]
 unfold btF
 split
 ·simp
 ·split
  ·simp
  ·split <;> simp
theorem txt_ne {x:Ex} (h:x.okN):Ex.txt x ≠ []:=fun e => by
 obtain ⟨ts,e1,e2⟩:=tokens_txt h 0
 rw [e,tokens_nil] at e2
 injection e2 with e2
 subst e2
 exact bt_ne h e1.symm
end PbR
end Go.Proofs.YtdefaeieiaegaaaGreatDoor
