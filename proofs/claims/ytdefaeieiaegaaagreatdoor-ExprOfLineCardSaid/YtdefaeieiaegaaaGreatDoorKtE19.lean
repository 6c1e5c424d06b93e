/- TxLines TxAdd RkOf Cyc RkLaw ShE: what these laws name of them. -/
import Derived.Deep.AppendLies
import Derived.Deep.CutBlock
import Derived.Deep.DeepCutAuto
import Derived.RegionTactic
import Derived.Laws.Tables
import Derived.Laws.Rows
import Derived.Laws.CopyOwn
import Derived.Deep.RegionHeld3
import Derived.IntWalk
import Derived.RangeFuncNested
import Derived.RangeFuncBound
import Derived.RangeFuncCalls
import Derived.RangeFuncLeaves
import Derived.Shelf.Abstract
import Derived.Shelf.RegionOpen
import Derived.WalkKit
import Derived.OwnWalkIn
import Derived.TacticsInMore
import Derived.LoopNIn
import Derived.LoopIn
import Derived.Deep.QuietTactic
import Derived.Deep.RegionWith
import Derived.ChangeOld
import Derived.Deep.DrawnRows
import Derived.LaidMore
import Derived.BigQuiet
import Derived.RangeFuncBox
import Derived.Test.YtdefaeieiaegaaaGreatDoorProg
import Derived.ProofKit
import Derived.Lib.Hide
import Derived.Outline
import Derived.Below
import Derived.WalkSpells
import Derived.WalkLawsBesides
import Derived.Laws.OwnMore
import Derived.OwnWalk
import Derived.ChangeAlike
import GoSem.Claim
import Derived.Lib.Bytealg
import Derived.Lib.Small
import Derived.Lib.AtoiAll
import Derived.Deep.Draws
import Derived.LaidLaws
import Derived.ChangeArms
import Derived.Lib.LaidTab
import Derived.WideShapes
import Derived.Test.YtdefaeieiaegaaaGreatDoorChecked
import Derived.WalkSmall
import Derived.Deep.RegionLaw
import Derived.BigRegion
import Derived.Laws.Pointers
import Derived.Lib.ConvBytes
import Derived.Lib.AtoiErrMem
import Derived.Laws.IdiomStrings
import Derived.Deep.LoopGhost
import Derived.Lib.UnsafeStr
import Derived.Lib.ItoaNum
import Derived.Lib.AtoiTie
import Derived.Lib.ItoaMem
import Derived.Lib.AppendIntMem
import Derived.Lib.ItoaLen
import Derived.Shelf.Strings.Builder1
import Derived.Shelf.Strings.Builder2
import Derived.Shelf.Strings.OnBuilder
import Derived.Shelf.Small.Bits
import Derived.Shelf.Small.Wraps
import Derived.Shelf.Strings.BuilderF
import Derived.Shelf.Strings.BuilderK
import Derived.Shelf.Strconv.Atoi
import Derived.Shelf.Strconv.Itoa0
import Derived.Shelf.Strconv.Itoa1
import Derived.Shelf.LaysM
import Derived.Shelf.Strconv.Itoa2
import Derived.Shelf.Strconv.Itoa3
import Derived.Shelf.Strconv.AtoiErrFast
import Derived.Shelf.Strconv.ParseIntEmpty
import Derived.Shelf.Strconv.AtoiFail
import Derived.Shelf.Strconv.Clone
import Derived.Shelf.Strconv.SyntaxError
import Derived.Shelf.LaysC
import Derived.Shelf.Strconv.ToError
import Derived.Shelf.Strconv.Lower
import Derived.Shelf.Strconv.ParseUint10
import Derived.Shelf.Strconv.ParseUint10Empty
import Derived.Shelf.Strconv.ParseUint10Any
import Derived.Shelf.Strconv.ParseInt10
import Derived.Shelf.Strconv.AtoiLong
import Derived.Shelf.Strconv.AtoiInnerAll
import Derived.Shelf.Strconv.RangeError
import Derived.Shelf.Strconv.ToErrorRange
import Derived.Shelf.Strconv.AtoiAll
import Derived.Shelf.Strconv.ErrVarAll
import Derived.Shelf.Strings.Search1
import Derived.Shelf.Strings.Search2
import Derived.Shelf.Strings.Search3
import Derived.Shelf.Strings.Cut
import Derived.Shelf.Strings.Count
import Derived.Shelf.Strings.Shaped
import Derived.Shelf.Strings.Prefix
import Derived.Shelf.Strings.Split
import Derived.Shelf.Bits.Mul64
import Derived.Shelf.Unicode.DecodeSlow
import Derived.Shelf.Slices.Turned
import Derived.Shelf.Slices.Equal
import Derived.Ground.Names2Prog
import Derived.Shelf.Slices.Clone
import Derived.Shelf.Slices.Empties2
import Derived.Ground.SlgfProg
import Derived.Shelf.SlicesE.IndexFunc
import Derived.Ground.SlgmProg
import Derived.Shelf.SortM.Plain
import Derived.Shelf.SortM.SortNone
import Derived.Lib.IndexMore
import Derived.Lib.Split
import Derived.Lib.Strings
import Derived.Lib.ReplaceLaws
import Derived.Lib.CountLaws
import Derived.Maps.Own
import Derived.Maps.OwnSet
import Derived.Maps.AppendAt
import Derived.Maps.Range
import Derived.Maps.RangeWalk
import Derived.Laws.AppendOwnNone
import Derived.Sort.EncStr
import Derived.StringKeys
import Derived.Lib.SplitLaws
import Derived.RangeFuncRecord
import Derived.Calls
import Derived.Orders
import Derived.OrdersHeld
import Derived.RangeFuncWrites
import Derived.Maps.OwnIn
import Derived.Shelf.SlIter.Nil
import Derived.Ground.GgzProg
import Derived.Tactics
import Derived.Tactics2
import Derived.Defers
import Derived.Recover
import Derived.RegionDies
import Derived.Test.YtdefaeieiaegaaaGreatDoorKtE05
import Derived.Test.YtdefaeieiaegaaaGreatDoorKtE09
import Derived.Test.YtdefaeieiaegaaaGreatDoorKtE10
import Derived.Test.YtdefaeieiaegaaaGreatDoorKtE11
import Derived.Test.YtdefaeieiaegaaaGreatDoorKtE12
import Derived.Test.YtdefaeieiaegaaaGreatDoorKtE13
import Derived.Test.YtdefaeieiaegaaaGreatDoorKtE18
namespace Go.Proofs.YtdefaeieiaegaaaGreatDoor
set_option linter.unusedVariables false
namespace RkL
end RkL
namespace TxL
open Go.RowKit
open ValM LexM NumM ExM NmM ShowM PrM Kit ExL ExP ExN RawV Within RawL GenL FldP FldR FldC FrmM NmA PgM PgA ShT TxM TxR TxP TxT Prn TxQ TxW TxN TxF TxG PsR PsD PsE PrU
set_option linter.unusedVariables false
theorem app_keep {V W6:World} {tmp:Obj} {o:Option Nat} (h:(V.alloc tmp).grownBy W6 o) {b:Nat} (hl:b < V.heap.size) (hne:some b ≠ o):W6.heap[b]?=V.heap[b]? :=
 (h.block b (by simp; omega) (fun e => hne e)).trans ((b_new V tmp).block b hl)
theorem g_below {w w1 w2:World} {o:Option Nat} (h:w.grownBy w1 o) (b:Below w1.heap.size w1 w2):w.grownBy w2 o :=
 ⟨b.os.trans h.os,b.tape.trans h.tape,b.output.trans h.output,Nat.le_trans h.size b.size,fun k hk hne => (b.block k (Nat.lt_of_lt_of_le hk h.size)).trans (h.block k hk hne)⟩
structure LnI (w:World) (B:Nat) (es:List FE) (ps:List PE) (u v:Value) (wr:World):Prop where
 ownF:wr.ownsRow w.heap.size 55 9 u es.length (feC es)
 ownP:wr.ownsRow w.heap.size 59 8 v ps.length (peC ps)
 ne:∀ g,u.ownBlock=some g->v.ownBlock ≠ some g
 isF:∀ e ∈ es,IsP (fun b => w.heap.size<=b/\some b ≠ u.ownBlock/\some b ≠ v.ownBlock) wr e.x e.x.d e.B e.m
 isP:∀ e ∈ ps,StrP (fun b => w.heap.size<=b/\some b ≠ u.ownBlock/\some b ≠ v.ownBlock) wr e.F e.fs/\IsP (fun b => w.heap.size<=b/\some b ≠ u.ownBlock/\some b ≠ v.ownBlock) wr e.x e.x.d e.B e.m
 bdF:∀ e ∈ es,e.nm.size<=2000000/\e.x.nodes<=160
 bdP:∀ e ∈ ps,PgBd e
 box:wr.heap[B]?=some (.cells #[u,v] 25 (0,0))
 lt:B < w.heap.size
 kp:w.grownBy wr (some B)
theorem LnI.start {w:World} {B:Nat} (hk:w.heap[B]?=some (.cells #[.slice none 0 0,.slice none 0 0] 25 (0,0))):LnI w B [] [] (.slice none 0 0) (.slice none 0 0) w :=
 ⟨World.ownsRow_nil _ _ _ _,World.ownsRow_nil _ _ _ _,fun g h => (by cases h),fun e h => (by cases h),fun e h => (by cases h),fun e h => (by cases h),fun e h => (by cases h),hk,(Array.getElem?_eq_some_iff.1 hk).1,⟨rfl,rfl,rfl,Nat.le_refl _,fun _ _ _ => rfl⟩⟩
theorem LnI.keep {w:World} {B:Nat} {es:List FE} {ps:List PE} {u v:Value} {wr w':World} (h:LnI w B es ps u v wr) (hb:Below wr.heap.size wr w'):LnI w B es ps u v w' :=
 ⟨own_below h.ownF hb,own_below h.ownP hb,h.ne,fun e he => (h.isF e he).below hb,fun e he => ⟨(h.isP e he).1.keep (fun b _ hl => hb.block b hl) (fun _ hp _ => hp),(h.isP e he).2.below hb⟩,h.bdF,h.bdP,(hb.block _ (Array.getElem?_eq_some_iff.1 h.box).1).trans h.box,h.lt,g_below h.kp hb⟩
theorem LnI.below {w0 w:World} {B:Nat} {es:List FE} {ps:List PE} {u v:Value} {wr:World} (h:LnI w B es ps u v wr) (hb:Below w0.heap.size w0 w) (hB:w0.heap.size<=B):Below w0.heap.size w0 wr :=
 hb.grown h.kp hb.size (fun k e => by injection e with e; omega)
theorem LnI.stepF {w:World} {B:Nat} {es:List FE} {ps:List PE} {u v:Value} {wr V W6:World} {e:FE} {gg cap:Nat} {tmp:Obj} (h:LnI w B es ps u v wr) (hb:Below wr.heap.size wr V) (hise:IsP (fun b => wr.heap.size<=b) V e.x e.x.d e.B e.m) (hbd:e.nm.size<=2000000/\e.x.nodes<=160)
  (hown6:W6.ownsRow w.heap.size 55 9 (.slice (some ⟨gg,0,none⟩) (es.length + 1) cap) (es.length + 1) (feC es ++ fdC e.fd)) (hgrow6:(V.alloc tmp).grownBy W6 u.ownBlock) (hat6:u.ownBlock=some gg ∨ gg=V.heap.size + 1) :
  LnI w B (es ++ [e]) ps (.slice (some ⟨gg,0,none⟩) (es.length + 1) cap) v (W6.setCell ⟨B,0,none⟩ (.slice (some ⟨gg,0,none⟩) (es.length + 1) cap))/\W6.heap[B]?=some (.cells #[u,v] 25 (0,0)):=by
 have hlt:=h.lt
 have hs5:wr.heap.size<=V.heap.size:=hb.size
 have hsw:=h.kp.size
 have hgg:w.heap.size<=gg:=(hown6.lt gg rfl).1
 have hge:Value.ownBlock (.slice (some ⟨gg,0,none⟩) (es.length + 1) cap)=some gg:=rfl
 have hou:∀ g,u.ownBlock=some g->w.heap.size<=g/\g < wr.heap.size:=fun g hg => h.ownF.lt g hg
 have hoo:∀ g,v.ownBlock=some g->w.heap.size<=g/\g < wr.heap.size:=fun g hg => h.ownP.lt g hg
 have f5:∀ b,b < V.heap.size->some b ≠ u.ownBlock->b ≠ B->(W6.setCell ⟨B,0,none⟩ (.slice (some ⟨gg,0,none⟩) (es.length + 1) cap)).heap[b]?=V.heap[b]?:=fun b hl hne hx =>
  (Below.heap_setCell W6 ⟨B,0,none⟩ _ b hx).trans (app_keep hgrow6 hl hne)
 have f0:∀ b,b < wr.heap.size->some b ≠ u.ownBlock->b ≠ B->(W6.setCell ⟨B,0,none⟩ (.slice (some ⟨gg,0,none⟩) (es.length + 1) cap)).heap[b]?=wr.heap[b]?:=fun b hl hne hx => (f5 b (by omega) hne hx).trans (hb.block b hl)
 have hBw:B < wr.heap.size:=(Array.getElem?_eq_some_iff.1 h.box).1
 have hBu:some B ≠ u.ownBlock:=fun e => by have:=(hou B e.symm).1; omega
 have hBo:some B ≠ v.ownBlock:=fun e => by have:=(hoo B e.symm).1; omega
 have hbox6:W6.heap[B]?=some (.cells #[u,v] 25 (0,0)):=((app_keep hgrow6 (by omega) hBu).trans (hb.block B hBw)).trans h.box
 have hne6:∀ g,v.ownBlock=some g->g ≠ gg:=fun g hg e => by
  rcases hat6 with hh | hh
  ·exact h.ne g (by rw [e]; exact hh) hg
  ·have:=(hoo g hg).2; omega
 have hPold:∀ b,(w.heap.size<=b/\some b ≠ u.ownBlock/\some b ≠ v.ownBlock)->b < wr.heap.size->(W6.setCell ⟨B,0,none⟩ (.slice (some ⟨gg,0,none⟩) (es.length + 1) cap)).heap[b]?=wr.heap[b]?:=fun b hp hl => f0 b hl hp.2.1 (by have:=hp.1; omega)
 have hQold:∀ b,(w.heap.size<=b/\some b ≠ u.ownBlock/\some b ≠ v.ownBlock)->b < wr.heap.size->(w.heap.size<=b/\some b ≠ Value.ownBlock (.slice (some ⟨gg,0,none⟩) (es.length + 1) cap)/\some b ≠ v.ownBlock):=fun b hp hl => by
  refine ⟨hp.1,fun e => ?_,hp.2.2⟩
  rw [hge] at e
  injection e with e
  rcases hat6 with hh | hh
  ·exact hp.2.1 (by rw [hh,e])
  ·omega
 have hPnew:∀ b,wr.heap.size<=b->b < V.heap.size->(W6.setCell ⟨B,0,none⟩ (.slice (some ⟨gg,0,none⟩) (es.length + 1) cap)).heap[b]?=V.heap[b]?:=fun b hp hl => f5 b hl (fun e => by have:=(hou b e.symm).2; omega) (by omega)
 have hQnew:∀ b,wr.heap.size<=b->b < V.heap.size->(w.heap.size<=b/\some b ≠ Value.ownBlock (.slice (some ⟨gg,0,none⟩) (es.length + 1) cap)/\some b ≠ v.ownBlock):=fun b hp hl => by
  refine ⟨by omega,fun e => ?_,fun e => by have:=(hoo b e.symm).2; omega⟩
  rw [hge] at e
  injection e with e
  rcases hat6 with hh | hh
  ·have:=(hou gg hh).2; omega
  ·omega
 have hown7:(W6.setCell ⟨B,0,none⟩ (.slice (some ⟨gg,0,none⟩) (es.length + 1) cap)).ownsRow w.heap.size 55 9 (.slice (some ⟨gg,0,none⟩) (es.length + 1) cap) (es.length + 1) (feC es ++ fdC e.fd):=by
  refine World.ownsRow.kept (row:=some B) hown6 ⟨rfl,rfl,rfl,by simp [World.setCell],fun k _ hk => Below.heap_setCell _ _ _ k (fun e => hk (by rw [e]))⟩ (.inr ?_)
  rw [hge]; intro e; injection e with e; omega
 have hother:(W6.setCell ⟨B,0,none⟩ (.slice (some ⟨gg,0,none⟩) (es.length + 1) cap)).ownsRow w.heap.size 59 8 v ps.length (peC ps):=by
  have h1:=own_below h.ownP hb
  have h2:=h1.alloc tmp
  have h3:=World.ownsRow.kept h2 hgrow6 (by
   cases ho:v.ownBlock with
   | none => exact .inl rfl
   | some g =>
    right
    intro e
    exact h.ne g e.symm ho)
  refine World.ownsRow.kept (row:=some B) h3 ⟨rfl,rfl,rfl,by simp [World.setCell],fun k _ hk => Below.heap_setCell _ _ _ k (fun e => hk (by rw [e]))⟩ ?_
  cases ho:v.ownBlock with
  | none => exact .inl rfl
  | some g => right; intro e; injection e with e; have:=(hoo g ho).1; omega
 refine ⟨⟨?_,?_,?_,?_,?_,?_,?_,?_,h.lt,?_⟩,hbox6⟩
 ·rw [feC_snoc]; simpa using hown7
 ·exact hother
 ·intro g hg e; rw [hge] at hg; injection hg with hg; exact hne6 g e hg.symm
 ·intro q hq
  rcases List.mem_append.1 hq with hq | hq
  ·exact IsP.keep (fun b hp hl => hPold b hp hl) (fun b hp hl => ⟨(hQold b hp hl).1,(hQold b hp hl).2.1,(hQold b hp hl).2.2⟩) _ _ _ _ (h.isF q hq)
  ·simp at hq; subst hq
   exact IsP.keep (fun b hp hl => hPnew b hp hl) (fun b hp hl => ⟨(hQnew b hp hl).1,(hQnew b hp hl).2.1,(hQnew b hp hl).2.2⟩) _ _ _ _ hise
 ·exact fun q hq => ⟨(h.isP q hq).1.keep (fun b hp hl => hPold b hp hl) (fun b hp hl => ⟨(hQold b hp hl).1,(hQold b hp hl).2.1,(hQold b hp hl).2.2⟩),IsP.keep (fun b hp hl => hPold b hp hl) (fun b hp hl => ⟨(hQold b hp hl).1,(hQold b hp hl).2.1,(hQold b hp hl).2.2⟩) _ _ _ _ (h.isP q hq).2⟩
 ·intro q hq
  rcases List.mem_append.1 hq with hq | hq
  ·exact h.bdF q hq
  ·simp at hq; subst hq; exact hbd
 ·exact h.bdP
 ·simp [World.setCell,Array.getElem?_modify,hbox6]
 ·have hk:=h.kp
  refine ⟨?_,?_,?_,?_,fun b hl hne => ?_⟩
  ·exact hgrow6.os.trans (hb.os.trans hk.os)
  ·exact hgrow6.tape.trans (hb.tape.trans hk.tape)
  ·exact hgrow6.output.trans (hb.output.trans hk.output)
  ·have h2:=hgrow6.size
   simp [World.setCell] at h2 ⊢; omega
  ·exact (f0 b (by omega) (fun e => by have:=(hou b e.symm).1; omega) (fun e => hne (by rw [e]))).trans (hk.block b hl hne)
theorem LnI.stepP {w:World} {B:Nat} {es:List FE} {ps:List PE} {u v:Value} {wr V W6:World} {e:PE} {gg cap:Nat} {tmp:Obj} (h:LnI w B es ps u v wr) (hb:Below wr.heap.size wr V) (hise:IsP (fun b => wr.heap.size<=b) V e.x e.x.d e.B e.m) (hstr:StrP (fun b => wr.heap.size<=b) V e.F e.fs) (hbd:PgBd e)
  (hown6:W6.ownsRow w.heap.size 59 8 (.slice (some ⟨gg,0,none⟩) (ps.length + 1) cap) (ps.length + 1) (peC ps ++ pgC e)) (hgrow6:(V.alloc tmp).grownBy W6 v.ownBlock) (hat6:v.ownBlock=some gg ∨ gg=V.heap.size + 1) :
  LnI w B es (ps ++ [e]) u (.slice (some ⟨gg,0,none⟩) (ps.length + 1) cap) (W6.setCell ⟨B,1,none⟩ (.slice (some ⟨gg,0,none⟩) (ps.length + 1) cap))/\W6.heap[B]?=some (.cells #[u,v] 25 (0,0)):=by
 have hlt:=h.lt
 have hs5:wr.heap.size<=V.heap.size:=hb.size
 have hsw:=h.kp.size
 have hgg:w.heap.size<=gg:=(hown6.lt gg rfl).1
 have hge:Value.ownBlock (.slice (some ⟨gg,0,none⟩) (ps.length + 1) cap)=some gg:=rfl
 have hou:∀ g,v.ownBlock=some g->w.heap.size<=g/\g < wr.heap.size:=fun g hg => h.ownP.lt g hg
 have hoo:∀ g,u.ownBlock=some g->w.heap.size<=g/\g < wr.heap.size:=fun g hg => h.ownF.lt g hg
 have f5:∀ b,b < V.heap.size->some b ≠ v.ownBlock->b ≠ B->(W6.setCell ⟨B,1,none⟩ (.slice (some ⟨gg,0,none⟩) (ps.length + 1) cap)).heap[b]?=V.heap[b]?:=fun b hl hne hx =>
  (Below.heap_setCell W6 ⟨B,1,none⟩ _ b hx).trans (app_keep hgrow6 hl hne)
 have f0:∀ b,b < wr.heap.size->some b ≠ v.ownBlock->b ≠ B->(W6.setCell ⟨B,1,none⟩ (.slice (some ⟨gg,0,none⟩) (ps.length + 1) cap)).heap[b]?=wr.heap[b]?:=fun b hl hne hx => (f5 b (by omega) hne hx).trans (hb.block b hl)
 have hBw:B < wr.heap.size:=(Array.getElem?_eq_some_iff.1 h.box).1
 have hBu:some B ≠ v.ownBlock:=fun e => by have:=(hou B e.symm).1; omega
 have hBo:some B ≠ u.ownBlock:=fun e => by have:=(hoo B e.symm).1; omega
 have hbox6:W6.heap[B]?=some (.cells #[u,v] 25 (0,0)):=((app_keep hgrow6 (by omega) hBu).trans (hb.block B hBw)).trans h.box
 have hne6:∀ g,u.ownBlock=some g->g ≠ gg:=fun g hg e => by
  rcases hat6 with hh | hh
  ·exact h.ne g hg (by rw [e]; exact hh)
  ·have:=(hoo g hg).2; omega
 have hPold:∀ b,(w.heap.size<=b/\some b ≠ u.ownBlock/\some b ≠ v.ownBlock)->b < wr.heap.size->(W6.setCell ⟨B,1,none⟩ (.slice (some ⟨gg,0,none⟩) (ps.length + 1) cap)).heap[b]?=wr.heap[b]?:=fun b hp hl => f0 b hl hp.2.2 (by have:=hp.1; omega)
 have hQold:∀ b,(w.heap.size<=b/\some b ≠ u.ownBlock/\some b ≠ v.ownBlock)->b < wr.heap.size->(w.heap.size<=b/\some b ≠ Value.ownBlock (.slice (some ⟨gg,0,none⟩) (ps.length + 1) cap)/\some b ≠ u.ownBlock):=fun b hp hl => by
  refine ⟨hp.1,fun e => ?_,hp.2.1⟩
  rw [hge] at e
  injection e with e
  rcases hat6 with hh | hh
  ·exact hp.2.2 (by rw [hh,e])
  ·omega
 have hPnew:∀ b,wr.heap.size<=b->b < V.heap.size->(W6.setCell ⟨B,1,none⟩ (.slice (some ⟨gg,0,none⟩) (ps.length + 1) cap)).heap[b]?=V.heap[b]?:=fun b hp hl => f5 b hl (fun e => by have:=(hou b e.symm).2; omega) (by omega)
 have hQnew:∀ b,wr.heap.size<=b->b < V.heap.size->(w.heap.size<=b/\some b ≠ Value.ownBlock (.slice (some ⟨gg,0,none⟩) (ps.length + 1) cap)/\some b ≠ u.ownBlock):=fun b hp hl => by
  refine ⟨by omega,fun e => ?_,fun e => by have:=(hoo b e.symm).2; omega⟩
  rw [hge] at e
  injection e with e
  rcases hat6 with hh | hh
  ·have:=(hou gg hh).2; omega
  ·omega
 have hown7:(W6.setCell ⟨B,1,none⟩ (.slice (some ⟨gg,0,none⟩) (ps.length + 1) cap)).ownsRow w.heap.size 59 8 (.slice (some ⟨gg,0,none⟩) (ps.length + 1) cap) (ps.length + 1) (peC ps ++ pgC e):=by
  refine World.ownsRow.kept (row:=some B) hown6 ⟨rfl,rfl,rfl,by simp [World.setCell],fun k _ hk => Below.heap_setCell _ _ _ k (fun e => hk (by rw [e]))⟩ (.inr ?_)
  rw [hge]; intro e; injection e with e; omega
 have hother:(W6.setCell ⟨B,1,none⟩ (.slice (some ⟨gg,0,none⟩) (ps.length + 1) cap)).ownsRow w.heap.size 55 9 u es.length (feC es):=by
  have h1:=own_below h.ownF hb
  have h2:=h1.alloc tmp
  have h3:=World.ownsRow.kept h2 hgrow6 (by
   cases ho:u.ownBlock with
   | none => exact .inl rfl
   | some g =>
    right
    intro e
    exact h.ne g ho e.symm)
  refine World.ownsRow.kept (row:=some B) h3 ⟨rfl,rfl,rfl,by simp [World.setCell],fun k _ hk => Below.heap_setCell _ _ _ k (fun e => hk (by rw [e]))⟩ ?_
  cases ho:u.ownBlock with
  | none => exact .inl rfl
  | some g => right; intro e; injection e with e; have:=(hoo g ho).1; omega
 refine ⟨⟨?_,?_,?_,?_,?_,?_,?_,?_,h.lt,?_⟩,hbox6⟩
 ·exact hother
 ·rw [peC_snoc]; simpa using hown7
 ·intro g hg e; rw [hge] at e; injection e with e; exact hne6 g hg e.symm
 ·exact fun q hq => IsP.keep (fun b hp hl => hPold b hp hl) (fun b hp hl => ⟨(hQold b hp hl).1,(hQold b hp hl).2.2,(hQold b hp hl).2.1⟩) _ _ _ _ (h.isF q hq)
 ·intro q hq
  rcases List.mem_append.1 hq with hq | hq
  ·exact ⟨(h.isP q hq).1.keep (fun b hp hl => hPold b hp hl) (fun b hp hl => ⟨(hQold b hp hl).1,(hQold b hp hl).2.2,(hQold b hp hl).2.1⟩),IsP.keep (fun b hp hl => hPold b hp hl) (fun b hp hl => ⟨(hQold b hp hl).1,(hQold b hp hl).2.2,(hQold b hp hl).2.1⟩) _ _ _ _ (h.isP q hq).2⟩
  ·simp at hq; subst hq
   exact ⟨hstr.keep (fun b hp hl => hPnew b hp hl) (fun b hp hl => ⟨(hQnew b hp hl).1,(hQnew b hp hl).2.2,(hQnew b hp hl).2.1⟩),IsP.keep (fun b hp hl => hPnew b hp hl) (fun b hp hl => ⟨(hQnew b hp hl).1,(hQnew b hp hl).2.2,(hQnew b hp hl).2.1⟩) _ _ _ _ hise⟩
 ·exact h.bdF
 ·intro q hq
  rcases List.mem_append.1 hq with hq | hq
  ·exact h.bdP q hq
  ·simp at hq; subst hq; exact hbd
 ·simp [World.setCell,Array.getElem?_modify,hbox6]
 ·have hk:=h.kp
  refine ⟨?_,?_,?_,?_,fun b hl hne => ?_⟩
  ·exact hgrow6.os.trans (hb.os.trans hk.os)
  ·exact hgrow6.tape.trans (hb.tape.trans hk.tape)
  ·exact hgrow6.output.trans (hb.output.trans hk.output)
  ·have h2:=hgrow6.size
   simp [World.setCell] at h2 ⊢; omega
  ·exact (f0 b (by omega) (fun e => by have:=(hou b e.symm).1; omega) (fun e => hne (by rw [e]))).trans (hk.block b hl hne)
end TxL
namespace TxD
open Go.RowKit
open ValM LexM NumM ExM NmM ShowM PrM Kit ExL ExP ExN RawV Within RawL GenL FldP FldR FldC FrmM NmA PgM PgA ShT TxM TxR TxP TxT Prn TxQ TxW TxN TxF TxG TxL PsR PsD PsE PrU
set_option linter.unusedVariables false
theorem infoFd:(Tryz.prog.info? 55).map (fun i => (i.zero,i.size,i.bytes))=some (some (.agg #[.string ⟨#[]⟩,.int .i64 0,.int .i64 0,.int .i64 0,.int .i64 0,.int .i64 0,.string ⟨#[]⟩,.string ⟨#[]⟩,.slice none 0 0]),9,112):=by kernel_rfl
theorem infoPg:(Tryz.prog.info? 59).map (fun i => (i.zero,i.size,i.bytes))=some (some (.agg #[.string ⟨#[]⟩,.slice none 0 0,.int .i64 0,.int .i64 0,.int .i64 0,.string ⟨#[]⟩,.string ⟨#[]⟩,.slice none 0 0]),8,120):=by kernel_rfl
theorem cutp_any (s p:ByteArray) (w:World):Calls Tryz.prog 66 #[.string s,.string p] w fun e w' => e=.returned (.tuple #[.string ⟨(Lib.trimPrefix s.data.toList p.data.toList).toArray⟩,.bool (Lib.hasPrefix s.data.toList p.data.toList)])/\w=w' :=
 (Tryz.strings_CutPrefix s p w).mono fun _ _ h => ⟨h.1,h.2.symm⟩
def pls (ps:List PE):List Pl:=ps.map fun p => (plE p).1
theorem field_or {l:List UInt8} (hp:¬ Lib.hasPrefix l pgW=true):(∃ nm k t src,lineV l=.field nm k t src) ∨ ∃ b,lineV l=.bad b:=by
 rw [fieldW_eq hp]
 unfold fieldW
 split
 ·split
  ·exact .inl ⟨_,_,_,_,rfl⟩
  ·exact .inr ⟨_,rfl⟩
 ·exact .inr ⟨_,rfl⟩
theorem rd_late {l:List UInt8} (hp:¬ Lib.hasPrefix l pgW=true):(rdLine pfR true l).1=if (rdLine pfR false l).1=0 then 3 else (rdLine pfR false l).1:=by
 rcases field_or hp with ⟨nm,k,t,src,h⟩ | ⟨b,h⟩
 ·unfold rdLine
  rw [h]
  cases src with
  | none => rfl
  | some s =>
   simp only
   by_cases h0:(pfR s).2=0
   ·simp [h0]
   ·simp [h0]
 ·rw [rd_bad_line true h,rd_bad_line false h]; rfl
def AddOut (w:World) (B:Nat) (es:List FE) (ps:List PE) (l:List UInt8) (e:Ending) (w':World):Prop :=
 ∃ (es':List FE) (ps':List PE) (u' v':Value) (er:Int),e=.returned (.int .i64 er)/\LnI w B es' ps' u' v' w'/\(rdLine pfR (decide (pls ps ≠ [])) l).1=er/\(er=0->(es'.map flE,pls ps')=addL (es.map flE,pls ps) (rdLine pfR (decide (pls ps ≠ [])) l).2)/\es'.length + ps'.length<=es.length + ps.length + 1
theorem trim_of {l p:List UInt8} (h:Lib.hasPrefix l p=true):Lib.trimPrefix l p=l.drop p.length:=by unfold Lib.trimPrefix; rw [h]; rfl
theorem trim_no {l p:List UInt8} (h:Lib.hasPrefix l p=false):Lib.trimPrefix l p=l:=by unfold Lib.trimPrefix; rw [h]; rfl
set_option maxRecDepth 100000 in
set_option maxHeartbeats 16000000 in
theorem addPage_any (l:ByteArray) (w:World) (B:Nat) (es:List FE) (ps:List PE) (u v:Value) (wr:World) (h:LnI w B es ps u v wr) (hl:l.size<=1000000) (hv:RVars wr) (hn:es.length + ps.length<=1000) (hp:Lib.hasPrefix l.data.toList pgW=true) :
  Calls Tryz.prog 32 #[.pointer (some ⟨B,0,none⟩),.string l] wr (AddOut w B es ps l.data.toList):=by
 obtain ⟨i0,hi,hz0,hz1,hz2⟩:=info_parts infoPg
 have hcp:=fun V => cutp_any l ⟨#[112,97,103,101,32]⟩ V
 have hp':Lib.hasPrefix l.data.toList (⟨#[112,97,103,101,32]⟩:ByteArray).data.toList=true:=hp
 simp only [trim_of hp',hp'] at hcp
 obtain ⟨rest,hr⟩:∃ r:ByteArray,(⟨(l.data.toList.drop (⟨#[112,97,103,101,32]⟩:ByteArray).data.toList.length).toArray⟩:ByteArray)=r:=⟨_,rfl⟩
 rw [hr] at hcp
 have hrl:rest.data.toList=l.data.toList.drop 5:=by rw [← hr]; rfl
 have hrp:=readPage_any rest l.data.toList wr (by show rest.data.toList.length<=_; rw [hrl,List.length_drop]; show l.size - 5<=_; omega) (by rw [hrl]; exact pageW_eq hp) hv
 have HCp:=Lib.hid hcp
 have HRp:=Lib.hid hrp
 clear hcp hp' hr hrl hrp hp hv
 go_enter Tryz.func32,Tryz.ntmps32
 go_wp2_with fail
 refine (HCp.out _).mono ?_; rintro e w1 ⟨rfl,rfl⟩
 go_wp2_with fail
 refine HRp.out.mono ?_; rintro e w2 ⟨f,er,rfl,hstr,hix,hrd,hok,hbd,hb2⟩
 have HRd:=Lib.hid hrd
 have HOk:=Lib.hid hok
 have HH:=Lib.hid h
 unfold pgV
 clear HCp HRp hrd hok
 go_upto_region 3 with fail
 obtain ⟨V,hV⟩:∃ V,w2.alloc (pgBox f)=V:=⟨_,rfl⟩
 obtain ⟨XB,hXB⟩:∃ N,w2.heap.size=N:=⟨_,rfl⟩
 have hbV:Below w2.heap.size w2 V:=by rw [← hV]; exact b_new _ _
 have hcl:=pg_cells w2 f
 rw [hV,hXB] at hcl
 have hcl0:=hcl
 clear hcl0
 have hwV:Below wr.heap.size wr V:=b_trans hb2 hbV
 have hkB:∀ W,Below V.heap.size V W->W.heap[B]?=some (.cells #[u,v] 25 (0,0)):=fun W hW => ((b_trans hwV hW).block B (Array.getElem?_eq_some_iff.1 h.box).1).trans h.box
 have hixV:=hix.below hbV
 have hstV:=hstr.keep (fun b _ hl => hbV.block b hl) (fun b hb _ => hb)
 have hown:=own_below h.ownP (b_trans hwV (b_drew (Below.refl _ _)))
 have htw:∀ (o:Obj) (gg cap:Nat) (w10:World),w10.ownsRow w.heap.size 59 8 (.slice (some ⟨gg,0,none⟩) (ps.length + 1) cap) (ps.length + 1) (peC ps ++ pgC f)->(V.drew.alloc o).grownBy w10 v.ownBlock->(v.ownBlock=some gg ∨ gg=V.heap.size + 1) →
   LnI w B es (ps ++ [f]) u (.slice (some ⟨gg,0,none⟩) (ps.length + 1) cap) (w10.setCell ⟨B,1,none⟩ (.slice (some ⟨gg,0,none⟩) (ps.length + 1) cap))/\w10.cell? ⟨B,0,none⟩=some u/\w10.cell? ⟨B,1,none⟩=some v/\w10.frozen? ⟨B,0,none⟩=false/\w10.frozen? ⟨B,1,none⟩=false:=fun o gg cap w10 ho hg hat => by
  have hs:=h.stepP (V:=V.drew) (e:=f) (b_drew hwV) (hixV.below (b_drew (Below.refl _ _))) (hstV.keep (fun _ _ _ => rfl) (fun _ hb _ => hb)) hbd ho hg hat
  obtain ⟨r0,r1⟩:=row_cells hs.2
  exact ⟨hs.1,by rw [r0]; rfl,by rw [r0]; rfl,r1 0,r1 1⟩
 have hsz:∀ o:Obj,w.heap.size<=(V.drew.alloc o).heap.size:=fun o => by have h1:=h.kp.size; have h2:=hwV.size; simp; omega
 obtain ⟨r0,r1⟩:=row_cells (hkB V (Below.refl _ _))
 have k0:V.cell? ⟨B,0,none⟩=some u:=by rw [r0]; rfl
 have k1:V.cell? ⟨B,1,none⟩=some v:=by rw [r0]; rfl
 have m0:V.frozen? ⟨B,0,none⟩=false:=r1 0
 have m1:V.frozen? ⟨B,1,none⟩=false:=r1 1
 have k0a:∀ o,(V.drew.alloc o).cell? ⟨B,0,none⟩=some u:=fun o => by rw [(row_cells (hkB _ (b_more (b_drew (Below.refl _ _)) o))).1]; rfl
 have k1a:∀ o,(V.drew.alloc o).cell? ⟨B,1,none⟩=some v:=fun o => by rw [(row_cells (hkB _ (b_more (b_drew (Below.refl _ _)) o))).1]; rfl
 have k0b:∀ o,(V.alloc o).drew.cell? ⟨B,0,none⟩=some u:=fun o => by rw [(row_cells (hkB _ (b_drew (b_new _ o)))).1]; rfl
 have k1b:∀ o,(V.alloc o).drew.cell? ⟨B,1,none⟩=some v:=fun o => by rw [(row_cells (hkB _ (b_drew (b_new _ o)))).1]; rfl
 obtain ⟨z0,z1,z2,z3,z4,z5,z6,z7⟩:=hcl V (Below.refl _ _)
 obtain ⟨A1,c1,rfl⟩:=GenL.own_slice h.ownP
 obtain ⟨nL,hnL⟩:∃ n,ps.length=n:=⟨_,rfl⟩
 obtain ⟨LL,hLL⟩:∃ l,peC ps=l:=⟨_,rfl⟩
 have hn1:nL<=1000:=by omega
 rw [hnL,hLL] at hown htw
 simp only [hnL] at k0 k1 k0a k1a k0b k1b
 have HOwn:=Lib.hid hown
 have HTw:=Lib.hid htw
 have HSz:=Lib.hid hsz
 have HV9:=Lib.hid hV
 have HXB:=Lib.hid hXB
 have HN:=Lib.hid hnL
 have HbV:=Lib.hid hwV
 clear hV hXB hbV hcl hwV hkB hixV hstV hown htw hsz r0 r1 hnL hLL
 unfold pgC at HTw
 unfold pgBox at HV9
 skip
 go_upto_region 4 with fail
 rw [HV9.out,HXB.out]
 go_cut [] (fun wx => ∃ gg cap,LnI w B es (ps ++ [f]) u (.slice (some ⟨gg,0,none⟩) (nL + 1) cap) wx)
 case first =>
  first | (go_region_law (first | (refine step_append_lies _ (by rfl) _ _ _ (by rfl) w.heap.size 59 i0 _ 8 120 Tryz.underlying23 hi hz0 hz1 hz2 rfl (by omega) (.slice A1 nL c1) nL LL (by rfl) (HOwn.out.alloc _) ⟨V.heap.size,0,none⟩ 1 1 [.string f.nm,.slice f.F f.fs.length f.fc,.int .i64 f.x.d.op,.int .i64 f.x.d.k,.int .i64 f.x.d.n,.string f.x.d.s,.string f.x.d.nm,.slice f.B f.m f.c] (by rfl) (by rfl) (World.news_of_block (cs:=#[.string f.nm,.slice f.F f.fs.length f.fc,.int .i64 f.x.d.op,.int .i64 f.x.d.k,.int .i64 f.x.d.n,.string f.x.d.s,.string f.x.d.nm,.slice f.B f.m f.c]) (t:=59) (fr:=(0,0)) (World.alloc_heap_new V.drew _)) (by simp [Value.oneCell']) (by omega) (by unfold maxLen; omega) (by omega) (HSz.out _) (V.heap.size + 1) (by simp) ?_; intro gg cap w10 hown10 hgrow10 hat10 hlt10; obtain ⟨hL10,n0,n1,g0,g1⟩:=HTw.out _ gg cap w10 hown10 hgrow10 hat10; have HL10:=Lib.hid hL10; clear hown10 hgrow10 hat10 hlt10 hL10) | (fail))) | (fail)
  all_goals (go_wp2_with fail; go_meet)
  all_goals exact ⟨_,_,HL10.out⟩
 case rest =>
  obtain ⟨gg,cap,hL⟩:=hcut
  have HL:=Lib.hid hL
  clear hL
  go_wp2_with fail
  go_ret
  refine ⟨es,ps ++ [f],u,_,er,rfl,HL.out,HRd.out _,fun h0 => ?_,by simp; omega⟩
  rw [HOk.out h0 _]
  unfold addL pls
  simp
set_option maxRecDepth 100000 in
set_option maxHeartbeats 16000000 in
theorem addField_any (l:ByteArray) (w:World) (B:Nat) (es:List FE) (ps:List PE) (u v:Value) (wr:World) (h:LnI w B es ps u v wr) (hl:l.size<=1000000) (hv:RVars wr) (hn:es.length + ps.length<=1000) (hp:¬ Lib.hasPrefix l.data.toList pgW=true) :
  Calls Tryz.prog 32 #[.pointer (some ⟨B,0,none⟩),.string l] wr (AddOut w B es ps l.data.toList):=by
 obtain ⟨i0,hi,hz0,hz1,hz2⟩:=info_parts infoFd
 have hcp:=fun V => cutp_any l ⟨#[112,97,103,101,32]⟩ V
 have hp':Lib.hasPrefix l.data.toList (⟨#[112,97,103,101,32]⟩:ByteArray).data.toList=false:=by simpa using hp
 simp only [trim_no hp',hp'] at hcp
 have hml:(⟨l.data.toList.toArray⟩:ByteArray)=l:=Lib.mk_data l
 rw [hml] at hcp
 have hrp:=readField_any l wr (by omega) hp hv
 have hlate:=rd_late hp
 have HLate:=Lib.hid hlate
 have HCp:=Lib.hid hcp
 have HRp:=Lib.hid hrp
 clear hcp hp' hml hrp hp hv hlate
 obtain ⟨A2,c2,rfl⟩:=GenL.own_slice h.ownP
 go_enter Tryz.func32,Tryz.ntmps32
 go_wp2_with fail
 refine (HCp.out _).mono ?_; rintro e w1 ⟨rfl,rfl⟩
 go_wp2_with fail
 refine HRp.out.mono ?_; rintro e w2 ⟨f,er,rfl,hix,hrd,hok,hb9,hnd,hb2⟩
 have hbd:=And.intro hb9 hnd
 have HRd:=Lib.hid hrd
 have HOk:=Lib.hid hok
 have HH:=Lib.hid h
 unfold fdV
 clear HCp HRp hrd hok hb9 hnd
 obtain ⟨pn,hpn⟩:∃ n,ps.length=n:=⟨_,rfl⟩
 obtain ⟨V,hV⟩:∃ V,w2.alloc (fdBox f.fd)=V:=⟨_,rfl⟩
 obtain ⟨XB,hXB⟩:∃ N,w2.heap.size=N:=⟨_,rfl⟩
 have hbV:Below w2.heap.size w2 V:=by rw [← hV]; exact b_new _ _
 have hcl:=fd_nine w2 f.fd
 rw [hV,hXB] at hcl
 unfold FE.fd at hcl
 simp only at hcl
 have hwV:Below wr.heap.size wr V:=b_trans hb2 hbV
 have hkB:∀ W,Below V.heap.size V W->W.heap[B]?=some (.cells #[u,.slice A2 ps.length c2] 25 (0,0)):=fun W hW => ((b_trans hwV hW).block B (Array.getElem?_eq_some_iff.1 h.box).1).trans h.box
 have hixV:=hix.below hbV
 have hstV:=hix
 have hown:=own_below h.ownF (b_trans hwV (b_drew (Below.refl _ _)))
 have htw:∀ (o:Obj) (gg cap:Nat) (w10:World),w10.ownsRow w.heap.size 55 9 (.slice (some ⟨gg,0,none⟩) (es.length + 1) cap) (es.length + 1) (feC es ++ fdC f.fd)->(V.drew.alloc o).grownBy w10 u.ownBlock->(u.ownBlock=some gg ∨ gg=V.heap.size + 1) →
   LnI w B (es ++ [f]) ps (.slice (some ⟨gg,0,none⟩) (es.length + 1) cap) (.slice A2 ps.length c2) (w10.setCell ⟨B,0,none⟩ (.slice (some ⟨gg,0,none⟩) (es.length + 1) cap))/\w10.cell? ⟨B,0,none⟩=some u/\w10.cell? ⟨B,1,none⟩=some (.slice A2 ps.length c2)/\w10.frozen? ⟨B,0,none⟩=false/\w10.frozen? ⟨B,1,none⟩=false:=fun o gg cap w10 ho hg hat => by
  have hs:=h.stepF (V:=V.drew) (e:=f) (b_drew hwV) (hixV.below (b_drew (Below.refl _ _))) hbd ho hg hat
  obtain ⟨r0,r1⟩:=row_cells hs.2
  exact ⟨hs.1,by rw [r0]; rfl,by rw [r0]; rfl,r1 0,r1 1⟩
 have hsz:∀ o:Obj,w.heap.size<=(V.drew.alloc o).heap.size:=fun o => by have h1:=h.kp.size; have h2:=hwV.size; simp; omega
 obtain ⟨r0,r1⟩:=row_cells (hkB V (Below.refl _ _))
 have k0:V.cell? ⟨B,0,none⟩=some u:=by rw [r0]; rfl
 have k1:V.cell? ⟨B,1,none⟩=some (.slice A2 ps.length c2):=by rw [r0]; rfl
 have m0:V.frozen? ⟨B,0,none⟩=false:=r1 0
 have m1:V.frozen? ⟨B,1,none⟩=false:=r1 1
 have k0a:∀ o,(V.drew.alloc o).cell? ⟨B,0,none⟩=some u:=fun o => by rw [(row_cells (hkB _ (b_more (b_drew (Below.refl _ _)) o))).1]; rfl
 have k1a:∀ o,(V.drew.alloc o).cell? ⟨B,1,none⟩=some (.slice A2 ps.length c2):=fun o => by rw [(row_cells (hkB _ (b_more (b_drew (Below.refl _ _)) o))).1]; rfl
 have k0b:∀ o,(V.alloc o).drew.cell? ⟨B,0,none⟩=some u:=fun o => by rw [(row_cells (hkB _ (b_drew (b_new _ o)))).1]; rfl
 have k1b:∀ o,(V.alloc o).drew.cell? ⟨B,1,none⟩=some (.slice A2 ps.length c2):=fun o => by rw [(row_cells (hkB _ (b_drew (b_new _ o)))).1]; rfl
 obtain ⟨z0,z1,z2,z3,z4,z5,z6,z7,z8⟩:=hcl V (Below.refl _ _)
 obtain ⟨A1,c1,rfl⟩:=GenL.own_slice h.ownF
 obtain ⟨nL,hnL⟩:∃ n,es.length=n:=⟨_,rfl⟩
 obtain ⟨LL,hLL⟩:∃ l,feC es=l:=⟨_,rfl⟩
 have hn1:nL<=1000:=by omega
 rw [hnL,hLL] at hown htw
 simp only [hnL] at k0 k1 k0a k1a k0b k1b
 have HOwn:=Lib.hid hown
 have HTw:=Lib.hid htw
 have HSz:=Lib.hid hsz
 have HV9:=Lib.hid hV
 have HXB:=Lib.hid hXB
 have HN:=Lib.hid hnL
 have HbV:=Lib.hid hwV
 clear hV hXB hbV hcl hwV hkB hixV hstV hown htw hsz r0 r1 hnL hLL
 unfold fdC FE.fd at HTw
 unfold fdBox FE.fd at HV9
 simp only at HTw HV9
 go_upto_region 7 with fail
 rw [HV9.out,HXB.out]
 rw [hpn] at k1 k1a k1b
 have HPn:=Lib.hid hpn
 clear hpn
 by_cases her:er=0
 ·have t1:(er == 0)=true:=beq_iff_eq.2 her
  by_cases hpz:pn=0
  ·have t2:¬ (0:Int) < (pn:Int):=by omega
   have HEr:=Lib.hid her
   have HPz:=Lib.hid hpz
   clear her hpz
   go_upto_region 9 with fail
   go_cut [] (fun wx => ∃ gg cap,LnI w B (es ++ [f]) ps (.slice (some ⟨gg,0,none⟩) (nL + 1) cap) (.slice A2 ps.length c2) wx)
   case first =>
    first | (go_region_law (first | (refine step_append_lies _ (by rfl) _ _ _ (by rfl) w.heap.size 55 i0 _ 9 112 Tryz.underlying22 hi hz0 hz1 hz2 rfl (by omega) (.slice A1 nL c1) nL LL (by rfl) (HOwn.out.alloc _) ⟨V.heap.size,0,none⟩ 1 1 [.string f.nm,.int .i64 f.kind,.int .i64 f.ty,.int .i64 f.x.d.op,.int .i64 f.x.d.k,.int .i64 f.x.d.n,.string f.x.d.s,.string f.x.d.nm,.slice f.B f.m f.c] (by rfl) (by rfl) (World.news_of_block (cs:=#[.string f.nm,.int .i64 f.kind,.int .i64 f.ty,.int .i64 f.x.d.op,.int .i64 f.x.d.k,.int .i64 f.x.d.n,.string f.x.d.s,.string f.x.d.nm,.slice f.B f.m f.c]) (t:=55) (fr:=(0,0)) (World.alloc_heap_new V.drew _)) (by simp [Value.oneCell']) (by omega) (by unfold maxLen; omega) (by omega) (HSz.out _) (V.heap.size + 1) (by simp) ?_; intro gg cap w10 hown10 hgrow10 hat10 hlt10; obtain ⟨hL10,n0,n1,g0,g1⟩:=HTw.out _ gg cap w10 hown10 hgrow10 hat10; have HL10:=Lib.hid hL10; clear hown10 hgrow10 hat10 hlt10 hL10) | (fail))) | (fail)
    all_goals (go_wp2_with fail; go_meet)
    all_goals exact ⟨_,_,HL10.out⟩
   case rest =>
    obtain ⟨gg,cap,hL⟩:=hcut
    have HL:=Lib.hid hL
    clear hL
    go_wp2_with fail
    go_ret
    have hpz:pls ps=[]:=by
     have h1:=HPz.out
     have h2:=HPn.out
     have h3:ps=[]:=List.eq_nil_of_length_eq_zero (by omega)
     rw [h3]; rfl
    refine ⟨es ++ [f],ps,_,_,er,rfl,HL.out,?_,fun h0 => ?_,by simp; omega⟩
    ·rw [hpz]; exact HRd.out
    ·rw [hpz]
     have:decide (([]:List Pl) ≠ [])=false:=rfl
     rw [this,HOk.out h0]
     unfold addL
     simp
  ·have t2:(0:Int) < (pn:Int):=by omega
   have HKeep:=Lib.hid (HH.out.keep (w':=V) HbV.out)
   have HEr:=Lib.hid her
   have HPz:=Lib.hid hpz
   clear her hpz
   go_wp2_with fail
   go_ret
   have hpz:decide (pls ps ≠ [])=true:=by
    have h1:=HPz.out
    have h2:=HPn.out
    rw [decide_eq_true_eq]
    intro e
    have:=congrArg List.length e
    unfold pls at this
    rw [List.length_map,h2] at this
    exact h1 this
   refine ⟨es,ps,_,_,3,rfl,HKeep.out,?_,fun h0 => absurd h0 (by decide),by omega⟩
   ·rw [hpz,HLate.out,HRd.out,HEr.out]; rfl
 ·have t1:(er == 0)=false:=beq_eq_false_iff_ne.2 her
  have HEr:=Lib.hid her
  clear her
  go_upto_region 9 with fail
  go_cut [] (fun wx => ∃ gg cap,LnI w B (es ++ [f]) ps (.slice (some ⟨gg,0,none⟩) (nL + 1) cap) (.slice A2 ps.length c2) wx)
  case first =>
   first | (go_region_law (first | (refine step_append_lies _ (by rfl) _ _ _ (by rfl) w.heap.size 55 i0 _ 9 112 Tryz.underlying22 hi hz0 hz1 hz2 rfl (by omega) (.slice A1 nL c1) nL LL (by rfl) (HOwn.out.alloc _) ⟨V.heap.size,0,none⟩ 1 1 [.string f.nm,.int .i64 f.kind,.int .i64 f.ty,.int .i64 f.x.d.op,.int .i64 f.x.d.k,.int .i64 f.x.d.n,.string f.x.d.s,.string f.x.d.nm,.slice f.B f.m f.c] (by rfl) (by rfl) (World.news_of_block (cs:=#[.string f.nm,.int .i64 f.kind,.int .i64 f.ty,.int .i64 f.x.d.op,.int .i64 f.x.d.k,.int .i64 f.x.d.n,.string f.x.d.s,.string f.x.d.nm,.slice f.B f.m f.c]) (t:=55) (fr:=(0,0)) (World.alloc_heap_new V.drew _)) (by simp [Value.oneCell']) (by omega) (by unfold maxLen; omega) (by omega) (HSz.out _) (V.heap.size + 1) (by simp) ?_; intro gg cap w10 hown10 hgrow10 hat10 hlt10; obtain ⟨hL10,n0,n1,g0,g1⟩:=HTw.out _ gg cap w10 hown10 hgrow10 hat10; have HL10:=Lib.hid hL10; clear hown10 hgrow10 hat10 hlt10 hL10) | (fail))) | (fail)
   all_goals (go_wp2_with fail; go_meet)
   all_goals exact ⟨_,_,HL10.out⟩
  case rest =>
   obtain ⟨gg,cap,hL⟩:=hcut
   have HL:=Lib.hid hL
   clear hL
   go_wp2_with fail
   go_ret
   refine ⟨es ++ [f],ps,_,_,er,rfl,HL.out,?_,fun h0 => absurd h0 HEr.out,by simp; omega⟩
   cases decide (pls ps ≠ []) with
   | false => exact HRd.out
   | true => rw [HLate.out,HRd.out,if_neg HEr.out]
end TxD
namespace RkO
open Go.RowKit
open ValM LexM NumM ExM NmM Kit ExL ExP ExN ExC RawV Within RawL GenL FldP FldR FldC NmO NmA NmI NmT NmR RkM RkA RkB RkC RkD
set_option linter.unusedVariables false
theorem nodup_bd:∀ (n:Nat) (l:List Nat),l.Nodup->(∀ x ∈ l,x < n)->l.length<=n
 | 0,l,_,h => by
  cases l with
  | nil => exact Nat.le_refl _
  | cons x l => exact absurd (h x (by simp)) (by omega)
 | n + 1,l,hd,h => by
  have h1:=nodup_bd n (l.erase n) (hd.erase n) (fun x hx => by
   have h2:=(hd.mem_erase_iff).1 hx
   have h3:=h x h2.2
   omega)
  by_cases hm:n ∈ l
  ·rw [List.length_erase_of_mem hm] at h1
   omega
  ·rw [List.erase_of_not_mem hm] at h1
   omega
def RankOk (ns:List (List Nat)) (w:World) (e:Ending) (w':World):Prop :=
 ∃ v,e=.returned (.tuple #[v,.slice none 0 0,.int .i64 0])/\w'.ownsRow w.heap.size 3 1 v ns.length (iV (rankF ns))/\Below w.heap.size w w'
theorem idx_none {r:List Int} (h:∀ i,i < r.length->rk r i ≠ -1):Lib.idxOf r (-1)=-1:=by
 have:=Lib.idxOf_miss r r.length (-1) fun j hj => h j hj
 rwa [List.take_length] at this
theorem index_any (r:List Int) (x:Int) (v:Value) (base:Nat) (w:World) (hl:r.length<=1048576) (h:w.ownsRow base 3 1 v r.length (iV r)):Calls Tryz.prog 91 #[v,.int .i64 x] w fun e w' => e=.returned (.int .i64 (Lib.idxOf r x))/\w=w':=by
 rcases Nat.eq_zero_or_pos r.length with h0 | h0
 ·obtain ⟨A,c,rfl,_⟩:=IRow.of_own h
  obtain rfl:r=[]:=List.eq_nil_of_length_eq_zero h0
  exact (Tryz.slices_Index_int_empty A c x w).mono fun e w' h => ⟨h.1,h.2.symm⟩
 ·obtain ⟨A,c,rfl,hr⟩:=IRow.of_own h
  obtain ⟨g,rfl,_⟩:=hr 0 h0
  have:=Tryz.slices_Index_int g 0 r.length c r x w (Nat.le_refl _) (by omega) (fun j hj => by
   obtain ⟨g',e,hc⟩:=hr j hj
   injection e with e; injection e with e _ _
   subst e
   rw [Nat.zero_add]; exact hc)
  rw [List.take_length] at this
  exact this.mono fun e w' h => ⟨h.1,h.2.symm⟩
set_option maxRecDepth 100000 in
set_option maxHeartbeats 4000000 in
theorem of_bad (fs:List GenL.Fd) (X:Nat->Ex) (FA:Option Addr) (fc:Nat) (w:World) (hm:fs.length<=1000000000000) (hf:Flds w FA fs) (hX:Forms w fs X) (hT:Tab w) (hcap:fs.length<=fc/\fc<=maxLen) (h0:checkF fs X ≠ 0) :
  Calls Tryz.prog 55 #[.slice FA fs.length fc] w fun e w' => e=.returned (.tuple #[.slice none 0 0,.slice none 0 0,.int .i64 (checkF fs X)])/\Below w.heap.size w w':=by
 have hc:=FldC.check_any fs X FA fc w hm hf hX hT hcap
 obtain ⟨R,hR⟩:∃ R,checkF fs X=R:=⟨_,rfl⟩
 rw [hR] at h0 hc ⊢
 have t1:(R != 0)=true:=bne_iff_ne.2 h0
 have HC:=Lib.hid hc
 clear hc hR hf hX hT h0
 go_enter Tryz.func55,Tryz.ntmps55
 go_wp2_with (go_at_call 88; refine HC.out.mono ?_; rintro e w1 ⟨rfl,hb⟩; have HB:=Lib.hid hb; clear hb)
 exact bodyPost_ret (v:=.tuple #[.slice none 0 0,.slice none 0 0,.int .i64 R]) (by simp [results,Tryz.results55,go_sem]) rfl ⟨rfl,HB.out⟩
set_option maxRecDepth 100000 in
set_option maxHeartbeats 4000000 in
theorem of_ok (fs:List GenL.Fd) (X:Nat->Ex) (FA:Option Addr) (fc:Nat) (w:World) (hm:fs.length<=14) (hf:Flds w FA fs) (hX:Forms w fs X) (hT:Tab w) (hcap:fs.length<=fc/\fc<=maxLen) (h0:checkF fs X=0) (hr:∀ i,i < fs.length->0<=rk (rankF (needsF fs X)) i) :
  Calls Tryz.prog 55 #[.slice FA fs.length fc] w (RankOk (needsF fs X) w):=by
 have hc:=FldC.check_any fs X FA fc w (Nat.le_trans hm (by decide)) hf hX hT hcap
 rw [h0] at hc
 clear h0
 have hd:∀ V:World,Below w.heap.size w V->Calls Tryz.prog 89 #[.slice FA fs.length fc] V (DirOut (needsF fs X) V):=fun V hV => direct_any fs X FA fc V hm (hf.below hV) (hX.below hV) (hT.below hV)
 have hok:=needsF_ok fs X hm
 have hnl:=needsF_len fs X
 obtain ⟨ns,hns⟩:∃ ns,needsF fs X=ns:=⟨_,rfl⟩
 rw [hns] at hd hok hnl hr ⊢
 have hix:Lib.idxOf (rankF ns) (-1)=-1:=idx_none fun i hi => by
  rw [rankF_len,hnl] at hi
  have:=hr i hi
  omega
 have HC:=Lib.hid hc
 have HD:=Lib.hid hd
 have HI:=Lib.hid hix
 have HNl:=Lib.hid hnl
 clear hnl hc hns hf hX hT hd hix hr
 go_enter Tryz.func55,Tryz.ntmps55
 go_wp2_with fail
 refine HC.out.mono ?_; rintro e w1 ⟨rfl,hb⟩
 have HB:=Lib.hid hb
 clear hb
 go_wp2_with fail
 refine (HD.out w1 HB.out).mono ?_; rintro e w2 ⟨A2,c2,rfl,hns2,hb2,-⟩
 have hrk:=ranked_any ns A2 c2 w2 hok hns2
 have HR:=Lib.hid hrk
 have HB2:=Lib.hid (b_trans HB.out hb2)
 clear hrk hns2 hb2
 go_wp2_with fail
 refine HR.out.mono ?_; rintro e w3 ⟨v3,rfl,hown3,hb3⟩
 have hown:=own_base hown3 HB2.out.size
 have HB3:=Lib.hid (b_trans HB2.out hb3)
 have hin:=index_any (rankF ns) (-1) v3 w.heap.size w3 (by rw [rankF_len,HNl.out]; omega) (by rw [rankF_len]; exact hown)
 rw [HI.out] at hin
 have HIn:=Lib.hid hin
 have HO:=Lib.hid hown
 clear hb3 hown3 hin hown
 go_wp2_with fail
 refine HIn.out.mono ?_; rintro e w4 ⟨rfl,rfl⟩
 go_wp2_with fail
 exact bodyPost_ret (v:=.tuple #[v3,.slice none 0 0,.int .i64 0]) (by simp [results,Tryz.results55,go_sem]) rfl ⟨v3,rfl,HO.out,HB3.out⟩
end RkO
namespace CycO
open Go.RowKit
open ValM LexM NumM ExM NmM Kit ExL ExP ExN ExC RawV Within RawL GenL FldP FldR FldC TyM Ty NmO NmA NmI NmT NmR RkM RkA RkB RkC RkD RkO RegI
set_option linter.unusedVariables false
def itN (f:Nat->Nat) (a:Nat):Nat->Nat
 | 0 => a
 | k + 1 => f (itN f a k)
def unB (r:List Int) (j:Nat):Bool:=decide (rk r j=-1)
def nxtF (ns:List (List Nat)) (r:List Int) (i:Nat):Nat:=(nd ns i).getD ((nd ns i).findIdx (unB r)) 0
theorem nxt_at {ns:List (List Nat)} {r:List Int} {i:Nat} (h:∃ j ∈ nd ns i,rk r j=-1):∃ hk:(nd ns i).findIdx (unB r) < (nd ns i).length,(nd ns i)[(nd ns i).findIdx (unB r)]=nxtF ns r i/\rk r (nxtF ns r i)=-1:=by
 obtain ⟨j,hj,e⟩:=h
 have hk:(nd ns i).findIdx (unB r) < (nd ns i).length:=List.findIdx_lt_length_of_exists ⟨j,hj,decide_eq_true e⟩
 have e2:(nd ns i)[(nd ns i).findIdx (unB r)]=nxtF ns r i:=by
  unfold nxtF
  rw [List.getD_eq_getElem?_getD,List.getElem?_eq_getElem hk]; rfl
 refine ⟨hk,e2,?_⟩
 have:=List.findIdx_getElem (xs:=nd ns i) (p:=unB r) (w:=hk)
 rw [e2] at this
 exact of_decide_eq_true this
theorem un_needs {ns:List (List Nat)} {r:List Int} (hf:Fix ns r) (hb:∀ i,-1<=rk r i) (i:Nat) (hi:i < ns.length) (hu:rk r i=-1):∃ j ∈ nd ns i,rk r j=-1:=by
 rcases Classical.em (∃ j ∈ nd ns i,rk r j=-1) with h | h
 ·exact h
 ·have h0:∀ j ∈ nd ns i,0<=rk r j:=fun j hj => by
   have h1:rk r j ≠ -1:=fun e => h ⟨j,hj,e⟩
   have h2:=hb j
   omega
  have:=(above_ok (nd ns i) 0 h0 (Int.le_refl _)).1
  rw [hf i hi,hu] at this
  omega
theorem cclosure_any (r:List Int) (n B g c:Nat) (x:Nat) (W:World) (hx:x < n) (hl:n<=1000) (hbox:W.cell? ⟨B,0,none⟩=some (.slice (some ⟨g,0,none⟩) n c)) (hrow:∀ j,j < n->W.cell? ⟨g,j,none⟩=some (.int .i64 (rk r j))) :
  Calls Tryz.prog 141 #[.int .i64 x,.pointer (some ⟨B,0,none⟩)] W fun e w' => e=.returned (.bool (unB r x))/\∃ q,w'=W.drewN q:=by
 have h1:=hrow x hx
 unfold unB
 generalize rk r x=b at h1
 have hxi:(x:Int) < (n:Int):=by omega
 have hx0:(0:Int)<=(x:Int):=by omega
 clear hrow
 go_enter Tryz.func141,Tryz.ntmps141
 go_wp2_with fail
 go_ret
 exact ⟨rfl,0,rfl⟩
def encF3 {n:Nat} (x:Fin n):Value:=.int .i64 (x.val:Int)
theorem firstUn_any (r:List Int) (n B g c:Nat) (L:List Nat) (A:Option Addr) (ci:Nat) (W:World) (hn:1<=n) (hl:n<=1000) (hL:∀ j ∈ L,j < n) (hLl:L.length<=1048576) (hr:NtRow W A L) (hBl:B < W.heap.size) (hgl:g < W.heap.size)
  (hbox:W.cell? ⟨B,0,none⟩=some (.slice (some ⟨g,0,none⟩) n c)) (hrow:∀ j,j < n->W.cell? ⟨g,j,none⟩=some (.int .i64 (rk r j))) (hk:L.findIdx (unB r) < L.length) :
  Calls Tryz.prog 140 #[.slice A L.length ci,.func (.func 141) #[] #[.pointer (some ⟨B,0,none⟩)]] W fun e w' => e=.returned (.int .i64 (L.findIdx (unB r):Nat))/\∃ q,w'=W.drewN q:=by
 haveI:Inhabited (Fin n):=⟨⟨0,by omega⟩⟩
 obtain ⟨g2,rfl,_⟩:=hr 0 (by omega)
 have eg:∀ args w,(callFunc 141 args).run Tryz.prog w=.ok (.enter 141 args) w:=enters_of Tryz.func141 (by kernel_rfl) rfl
 obtain ⟨zs,hzs⟩:∃ zs:List (Fin n),zs.map Fin.val=L:=⟨L.pmap (fun j h => ⟨j,h⟩) hL,by rw [List.map_pmap]; simp⟩
 have hzl:zs.length=L.length:=by rw [← hzs,List.length_map]
 have hp:PredAt Tryz.prog 141 #[.pointer (some ⟨B,0,none⟩)] encF3 (fun x:Fin n => unB r x.val) W:=fun V x hV =>
  cclosure_any r n B g c x.val V x.isLt hl ((hV.cell (p:=⟨B,0,none⟩) hBl).trans hbox) (fun j hj => (hV.cell (p:=⟨g,j,none⟩) hgl).trans (hrow j hj))
 have:=Tryz.slices_IndexFunc encF3 (fun x:Fin n => unB r x.val) 141 #[.pointer (some ⟨B,0,none⟩)] eg g2 0 L.length ci zs W hp (by omega) (by omega) (fun j hj => by
  have hj2:j < L.length:=by omega
  obtain ⟨g3,e,hc⟩:=hr j hj2
  injection e with e; injection e with e _ _
  subst e
  rw [Nat.zero_add,hc,getElem!_pos zs j hj]
  unfold encF3
  have:L[j]=(zs[j]).val:=by simp only [← hzs,List.getElem_map]
  rw [this])
 refine this.mono fun e w' h => ⟨?_,h.2⟩
 have hat:∀ j (hj:j < zs.length),(zs[j]!).val=L[j]'(by omega):=fun j hj => by
  rw [getElem!_pos zs j hj]
  simp only [← hzs,List.getElem_map]
 rw [h.1,Lib.idxBy_hit (fun _ y => unB r y.val) zs L.length (L.findIdx (unB r)) default hk (by omega) (by show unB r (zs[L.findIdx (unB r)]!).val=true; rw [hat _ (by omega)]; exact List.findIdx_getElem) (fun j hj => by
  show unB r (zs[j]!).val=false
  rw [hat j (by omega)]
  exact by simpa using List.not_of_lt_findIdx hj)]
theorem containsS_hasB2 (L:List ByteArray) (s:ByteArray):Lib.containsS L s=hasB L s:=by
 rw [Bool.eq_iff_iff,Lib.containsS_iff,hasB_true]
theorem containsN_any (L:List ByteArray) (s:ByteArray) (v:Value) (base:Nat) (w:World) (hl:L.length<=1048576) (h:w.ownsRow base 9 1 v L.length (strV L)) :
  Calls Tryz.prog 139 #[v,.string s] w fun e w' => e=.returned (.bool (hasB L s))/\w=w':=by
 rcases Nat.eq_zero_or_pos L.length with h0 | h0
 ·obtain ⟨A,c,rfl,_⟩:=SRow.of_own h
  obtain rfl:L=[]:=List.eq_nil_of_length_eq_zero h0
  exact (Tryz.slices_Contains_string_empty A c s w).mono fun e w' h => ⟨h.1,h.2.symm⟩
 ·obtain ⟨A,c,rfl,hr⟩:=SRow.of_own h
  obtain ⟨g,rfl,_⟩:=hr 0 h0
  have:=Tryz.slices_Contains_string g 0 L.length c L s w (Nat.le_refl _) (by omega) (fun j hj => by
   obtain ⟨g',e,hc⟩:=hr j hj
   injection e with e; injection e with e _ _
   subst e
   rw [Nat.zero_add,List.getD_eq_getElem?_getD,List.getElem?_eq_getElem hj]; exact hc)
  rw [List.take_length,containsS_hasB2] at this
  exact this.mono fun e w' h => ⟨h.1,h.2.symm⟩
theorem indexS_any (L:List ByteArray) (j:Nat) (s:ByteArray) (g c:Nat) (w:World) (hl:L.length<=1048576) (hr:SRow w (some ⟨g,0,none⟩) L) (hj:j < L.length) (e:L[j]=s) (hne:∀ i (hi:i < j),L[i] ≠ s) :
  Calls Tryz.prog 142 #[.slice (some ⟨g,0,none⟩) L.length c,.string s] w fun e w' => e=.returned (.int .i64 (j:Nat))/\w=w':=by
 have:=Tryz.slices_Index_string g 0 L.length c L s w (Nat.le_refl _) (by omega) (fun j hj => by
  obtain ⟨g',e,hc⟩:=hr j hj
  injection e with e; injection e with e _ _
  subst e
  rw [Nat.zero_add,List.getD_eq_getElem?_getD,List.getElem?_eq_getElem hj]; exact hc)
 rw [Lib.idxOfS_hit L L.length j s hj (Nat.le_refl _) (by rw [List.getD_eq_getElem?_getD,List.getElem?_eq_getElem hj]; exact e) (fun i hi => by rw [List.getD_eq_getElem?_getD,List.getElem?_eq_getElem (by omega)]; exact hne i hi)] at this
 exact this.mono fun e w' h => ⟨h.1,h.2.symm⟩
def pathF (nm:Nat->ByteArray) (f:Nat->Nat) (a k:Nat):List ByteArray:=(List.range k).map fun i => nm (itN f a i)
theorem path_len (nm:Nat->ByteArray) (f:Nat->Nat) (a k:Nat):(pathF nm f a k).length=k:=by unfold pathF; simp
theorem path_succ (nm:Nat->ByteArray) (f:Nat->Nat) (a k:Nat):pathF nm f a (k + 1)=pathF nm f a k ++ [nm (itN f a k)]:=by unfold pathF; rw [List.range_succ,List.map_append]; rfl
theorem path_at (nm:Nat->ByteArray) (f:Nat->Nat) (a k i:Nat) (h:i < (pathF nm f a k).length):(pathF nm f a k)[i]=nm (itN f a i):=by simp [pathF]
def CycAt (nm:Nat->ByteArray) (f:Nat->Nat) (a n:Nat) (v:Value) (w:World):Prop :=
 ∃ k j g c,v=.slice (some ⟨g,j,none⟩) (k - j) c/\j < k/\k<=n/\itN f a k=itN f a j/\(∀ i i',i < k->i' < k->itN f a i=itN f a i'->i=i')/\∀ i,i < k - j->w.cell? ⟨g,j + i,none⟩=some (.string (nm (itN f a (j + i))))
def InjK (f:Nat->Nat) (a k:Nat):Prop:=∀ i i',i < k->i' < k->itN f a i=itN f a i'->i=i'
theorem nodup_it {f:Nat->Nat} {a:Nat}:∀ k,InjK f a k->((List.range k).map (itN f a)).Nodup
 | 0,_ => by simp
 | k + 1,h => by
  rw [List.range_succ,List.map_append,List.nodup_append]
  refine ⟨nodup_it k fun i i' hi hi' e => h i i' (by omega) (by omega) e,by simp,fun x hx y hy e => ?_⟩
  obtain ⟨i,hi,rfl⟩:=List.mem_map.1 hx
  rw [List.mem_range] at hi
  simp at hy
  subst hy
  have:=h i k (by omega) (by omega) e
  omega
theorem inj_le {f:Nat->Nat} {a k n:Nat} (h:InjK f a k) (hn:∀ i,itN f a i < n):k<=n:=by
 have:=nodup_bd n ((List.range k).map (itN f a)) (nodup_it k h) (fun x hx => by
  obtain ⟨i,_,rfl⟩:=List.mem_map.1 hx
  exact hn i)
 rwa [List.length_map,List.length_range] at this
theorem inj_step {f:Nat->Nat} {a k:Nat} (h:InjK f a k) (hk:∀ i,i < k->itN f a i ≠ itN f a k):InjK f a (k + 1):=fun i i' hi hi' e => by
 by_cases h1:i=k
 ·by_cases h2:i'=k
  ·omega
  ·subst h1; exact absurd e.symm (hk i' (by omega))
 ·by_cases h2:i'=k
  ·subst h2; exact absurd e (hk i (by omega))
  ·exact h i i' (by omega) (by omega) e
theorem path_has {nm:Nat->ByteArray} {f:Nat->Nat} {a k n:Nat} (hn:∀ i,itN f a i < n) (hinj:∀ i j,i < n->j < n->nm i=nm j->i=j):hasB (pathF nm f a k) (nm (itN f a k))=true ↔ ∃ i,i < k/\itN f a i=itN f a k:=by
 rw [hasB_true]
 unfold pathF
 rw [List.mem_map]
 constructor
 ·rintro ⟨i,hi,e⟩
  exact ⟨i,List.mem_range.1 hi,hinj _ _ (hn i) (hn k) e⟩
 ·rintro ⟨i,hi,e⟩
  exact ⟨i,List.mem_range.2 hi,by rw [e]⟩
def CInv (W1 w:World) (nm:Nat->ByteArray) (f:Nat->Nat) (a k:Nat) (v:Value) (wr:World):Prop :=
 InjK f a k/\wr.ownsRow (w.heap.size + 1) 9 1 v k (strV (pathF nm f a k))/\Below W1.heap.size W1 wr
set_option maxRecDepth 100000 in
set_option maxHeartbeats 4000000 in
theorem cycle_any (FA NA:Option Addr) (fc nc gR rc:Nat) (ns:List (List Nat)) (r:List Int) (nm:Nat->ByteArray) (n at0:Nat) (w:World) (hf:∀ V,Below w.heap.size w V->∀ i,i < n->∃ ad:Addr,FA=some ad/\V.cell? (ad.add (i * 9))=some (.string (nm i)))
  (hns:∀ V,Below w.heap.size w V->∀ i,i < n->∃ g Ai ci,NA=some ⟨g,0,none⟩/\V.cell? ⟨g,i,none⟩=some (.slice Ai (nd ns i).length ci)/\NtRow V Ai (nd ns i)) (hr:∀ j,j < n->w.cell? ⟨gR,j,none⟩=some (.int .i64 (rk r j))) (hgR:gR < w.heap.size)
  (hn:1<=n) (h14:n<=14) (hok:∀ i,i < n->(nd ns i).length<=1048576/\∀ j ∈ nd ns i,j < n) (hinj:∀ i j,i < n->j < n->nm i=nm j->i=j) (hun:∀ i,i < n->rk r i=-1->∃ j ∈ nd ns i,rk r j=-1) (hat:at0 < n) (hau:rk r at0=-1) :
  Calls Tryz.prog 92 #[.slice FA n fc,.slice NA n nc,.slice (some ⟨gR,0,none⟩) n rc,.int .i64 at0] w fun e w' => ∃ v,e=.returned v/\CycAt nm (nxtF ns r) at0 n v w'/\Below w.heap.size w w':=by
 have hit:∀ i,itN (nxtF ns r) at0 i < n/\rk r (itN (nxtF ns r) at0 i)=-1:=fun i => by
  induction i with
  | zero => exact ⟨hat,hau⟩
  | succ i ih =>
   obtain ⟨hk,e,hu⟩:=nxt_at (hun _ ih.1 ih.2)
   exact ⟨(hok _ ih.1).2 _ (by show nxtF ns r _ ∈ _; rw [← e]; exact List.getElem_mem hk),hu⟩
 have hhas:=fun k => path_has (nm:=nm) (f:=nxtF ns r) (a:=at0) (k:=k) (fun i => (hit i).1) hinj
 obtain ⟨i0,hi,hz0,hz1,hz2⟩:=info_parts1 NmA.infoStr
 obtain ⟨W1,hW1⟩:∃ V,w.alloc (.cells #[.slice (some ⟨gR,0,none⟩) n rc] 99)=V:=⟨_,rfl⟩
 have hb1:=b_new w (.cells #[.slice (some ⟨gR,0,none⟩) n rc] 99)
 rw [hW1] at hb1
 have hsz1:W1.heap.size=w.heap.size + 1:=by rw [← hW1]; simp
 have hbox:W1.cell? ⟨w.heap.size,0,none⟩=some (.slice (some ⟨gR,0,none⟩) n rc):=by
  rw [← hW1]; unfold World.cell?; rw [World.alloc_heap_new]; rfl
 have hr1:∀ V,Below W1.heap.size W1 V->∀ j,j < n->V.cell? ⟨gR,j,none⟩=some (.int .i64 (rk r j)):=fun V hV j hj => ((b_trans hb1 hV).cell (p:=⟨gR,j,none⟩) hgR).trans (hr j hj)
 have hbx:∀ V,Below W1.heap.size W1 V->V.cell? ⟨w.heap.size,0,none⟩=some (.slice (some ⟨gR,0,none⟩) n rc):=fun V hV => (hV.cell (p:=⟨w.heap.size,0,none⟩) (by dsimp only; omega)).trans hbox
 have HF:=Lib.hid hf
 have HNs:=Lib.hid hns
 have HR1:=Lib.hid hr1
 have HBx:=Lib.hid hbx
 have HOk:=Lib.hid hok
 have HUn:=Lib.hid hun
 have HIt:=Lib.hid hit
 have HHas:=Lib.hid hhas
 have HW1:=Lib.hid hW1
 have HB1:=Lib.hid hb1
 have HS1:=Lib.hid hsz1
 have HInj:=Lib.hid hinj
 have HgR:=Lib.hid hgR
 clear hf hns hr hgR hok hinj hun hat hau hit hhas hW1 hb1 hsz1 hbox hr1 hbx
 go_enter Tryz.func92,Tryz.ntmps92
 go_wp2_with fail
 rw [HW1.out]
 go_loopw [3,9,10] (fun a p _ wr => ∃ (k:Nat) (A:Option Addr) (c:Nat),a=.int .i64 (itN (nxtF ns r) at0 k:Nat)/\p=.slice A k c/\CInv W1 w nm (nxtF ns r) at0 k (.slice A k c) wr) (fun _ p _ _ => n - (match p with | .slice _ m _ => m | _ => 0))
 case atStart => exact ⟨0,none,0,rfl,rfl,fun i i' hi => absurd hi (by omega),World.ownsRow_nil _ _ _ _,Below.refl _ _⟩
 case round =>
  obtain ⟨k,A,c,rfl,rfl,hik,hown,hb⟩:=hrel
  have hkn:k<=n:=inj_le hik (fun i => (HIt.out i).1)
  have hown':wr.ownsRow (w.heap.size + 1) 9 1 (.slice A k c) (pathF nm (nxtF ns r) at0 k).length (strV (pathF nm (nxtF ns r) at0 k)):=by rw [path_len]; exact hown
  obtain ⟨A',c',hp,hsr⟩:=SRow.of_own hown'
  rw [path_len] at hp
  injection hp with hp1 hp2 hp3
  subst hp1 hp3
  clear hp2
  have hcon:=containsN_any (pathF nm (nxtF ns r) at0 k) (nm (itN (nxtF ns r) at0 k)) (.slice A k c) _ wr (by rw [path_len]; omega) hown'
  have hh:=HHas.out k
  have hnx:itN (nxtF ns r) at0 (k + 1)=nxtF ns r (itN (nxtF ns r) at0 k):=rfl
  obtain ⟨han,hau⟩:=HIt.out k
  have hstep:(∀ i,i < k->itN (nxtF ns r) at0 i ≠ itN (nxtF ns r) at0 k)->InjK (nxtF ns r) at0 (k + 1):=fun h => inj_step hik h
  have hps:=path_succ nm (nxtF ns r) at0 k
  have hpa:=path_at nm (nxtF ns r) at0 k
  have hpl:=path_len nm (nxtF ns r) at0 k
  have hend:∀ j g c,j < k->itN (nxtF ns r) at0 j=itN (nxtF ns r) at0 k->A=some ⟨g,0,none⟩->CycAt nm (nxtF ns r) at0 n (.slice (some ⟨g,j,none⟩) (k - j) c) wr:=fun j g c hj e eA => by
   refine ⟨k,j,g,c,rfl,hj,hkn,e.symm,hik,fun i hi => ?_⟩
   obtain ⟨g',e',hc⟩:=hsr (j + i) (by rw [path_len]; omega)
   rw [eA] at e'
   injection e' with e'; injection e' with e' _ _
   subst e'
   rw [hc,path_at]
  have hne:∀ j,j < k->itN (nxtF ns r) at0 j=itN (nxtF ns r) at0 k->∀ i (hi:i < j) (h:i < (pathF nm (nxtF ns r) at0 k).length),(pathF nm (nxtF ns r) at0 k)[i] ≠ nm (itN (nxtF ns r) at0 k):=fun j hj e i hi h e2 => by
   rw [path_at] at e2
   have h3:=HInj.out _ _ (HIt.out i).1 (HIt.out k).1 e2
   have:=hik i j (by omega) hj (h3.trans e.symm)
   omega
  generalize pathF nm (nxtF ns r) at0 k=pth at *
  generalize itN (nxtF ns r) at0 k=a at *
  obtain ⟨ad,rfl,hca⟩:=HF.out wr (b_trans HB1.out hb) a han
  have hai:(a:Int) < (n:Int):=by omega
  have ha0:(0:Int)<=(a:Int):=by omega
  have Hb:=Lib.hid hb
  cases hB:hasB pth (nm a) with
  | false =>
   rw [hB] at hcon
   have hij:=hstep (fun i hi e => by have:=hh.2 ⟨i,hi,e⟩; rw [hB] at this; cases this)
   have hkn1:k + 1<=n:=inj_le hij (fun i => (HIt.out i).1)
   obtain ⟨him,hie,hiu⟩:=nxt_at (HUn.out a han hau)
   have hnsa:=fun V hV => HNs.out V hV a han
   have hfu:∀ V Ai ci,Below W1.heap.size W1 V->NtRow V Ai (nd ns a)->Calls Tryz.prog 140 #[.slice Ai (nd ns a).length ci,.func (.func 141) #[] #[.pointer (some ⟨w.heap.size,0,none⟩)]] V fun e w' => e=.returned (.int .i64 ((nd ns a).findIdx (unB r):Nat))/\∃ q,w'=V.drewN q:=fun V Ai ci hV hnt =>
    firstUn_any r n w.heap.size gR rc (nd ns a) Ai ci V hn (by omega) (HOk.out a han).2 (HOk.out a han).1 hnt (by have:=hV.size; have:=HS1.out; omega) (by have:=hV.size; have:=HS1.out; have:=HgR.out; omega) (HBx.out V hV) (HR1.out V hV) him
   generalize (nd ns a).findIdx (unB r)=m at him hie hfu
   generalize nxtF ns r a=a2 at hie hnx
   have hown1:∀ o:Obj,(wr.alloc o).ownsRow (w.heap.size + 1) 9 1 (.slice A k c) k (strV pth):=fun o => hown.alloc o
   have hown9:∀ gg cap w6,w6.ownsRow (w.heap.size + 1) 9 1 (.slice (some ⟨gg,0,none⟩) (k + 1) cap) (k + 1) (strV pth ++ [.string (nm a)])->∀ w7,Below w6.heap.size w6 w7->w7.ownsRow (w.heap.size + 1) 9 1 (.slice (some ⟨gg,0,none⟩) (k + 1) cap) (k + 1) (strV (pathF nm (nxtF ns r) at0 (k + 1))):=fun gg cap w6 h w7 hV => by
    rw [hps,strV_append]
    exact GenL.own_below h hV
   have hgrw:∀ (o:Obj) (w6:World),(wr.alloc o).grownBy w6 (Value.slice A k c).ownBlock->Below W1.heap.size W1 w6:=fun o w6 hg =>
    (b_trans hb (b_new wr o)).grown hg (b_trans hb (b_new wr o)).size (fun g e => by have:=(hown.lt g e).1; have:=HS1.out; omega)
   have hsz:=hb.size
   have hs1:=HS1.out
   have hszw:w.heap.size + 1<=wr.heap.size:=by omega
   have HOwn1:=Lib.hid hown1
   have HOwn9:=Lib.hid hown9
   have HGrw:=Lib.hid hgrw
   have HCon:=Lib.hid hcon
   have HIj:=Lib.hid hij
   have HNx:=Lib.hid hnx
   have HNsa:=Lib.hid hnsa
   have HFu:=Lib.hid hfu
   have HIe:=Lib.hid hie
   clear hown1 hown9 hgrw hcon hij hnx hnsa hfu hne hend hpa hps hstep hh hsr hown' hown hik hb hB hsz hs1 hiu hau HBx HR1 HOk HUn HIt HHas HW1 HS1 HInj HgR HF HNs
   go_wp2_with (first
    | (go_at_call 139; refine HCon.out.mono ?_; rintro e w5 ⟨rfl,rfl⟩)
    | (at_builtin; refine wpList_append_lies _ rfl _ _ 38 rfl (w.heap.size + 1) 9 i0 (.string ⟨#[]⟩) 1 16 Tryz.underlying38 hi hz0 hz1 hz2 rfl (by decide) (.slice A k c) k (strV pth) rfl (HOwn1.out _) ⟨wr.heap.size,0,none⟩ 1 1 [.string (nm a)] rfl rfl (World.news_of_block (cs:=#[.string (nm a)]) (t:=9) (fr:=(0,0)) (World.alloc_heap_new wr _)) (by simp [Value.oneCell']) (by decide) (by unfold maxLen; omega) (by omega) (by simp; omega) (wr.heap.size + 1) (by simp) ?_))
   intro gg cap w6 hown6 hgrow6 _ _
   have hb6:=HGrw.out _ _ hgrow6
   obtain ⟨gN,Ai,ci,rfl,hcN,hntr⟩:=HNsa.out w6 (b_trans HB1.out hb6)
   have hfu:=HFu.out w6 Ai ci hb6 hntr
   have HFu2:=Lib.hid hfu
   have HOwn6:=Lib.hid hown6
   have HB6:=Lib.hid hb6
   have HNt:=Lib.hid hntr
   clear hfu hown6 hgrow6 hb6 hntr
   go_wp2_with fail
   refine HFu2.out.mono ?_; rintro e w7 ⟨rfl,hq⟩
   have hb67:Below w6.heap.size w6 w7:=by obtain ⟨q,rfl⟩:=hq; exact b_drewN (Below.refl _ _) q
   have hcN7:=(hb67.cell (p:=⟨gN,a,none⟩) (World.block_lt_of_cell? w6 _ hcN)).trans hcN
   obtain ⟨gA,rfl,hcA⟩:=(HNt.out.below hb67) m him
   rw [HIe.out] at hcA
   have hown7:=HOwn9.out _ _ _ HOwn6.out w7 hb67
   have HI7:=Lib.hid (show CInv W1 w nm (nxtF ns r) at0 (k + 1) (.slice (some ⟨gg,0,none⟩) (k + 1) cap) w7 from ⟨HIj.out,hown7,b_trans HB6.out hb67⟩)
   have hmi:(m:Int) < ((nd ns a).length:Int):=by omega
   have hm0:(0:Int)<=(m:Int):=by omega
   clear hie HIe hq hb67 hown7 hcN HFu2 HOwn6 HNt HOwn9 HFu HNsa HGrw HOwn1 HCon
   generalize (nd ns a).length=L at him hcN7 hmi
   go_wp2_with fail
   go_roundw
   case rel => exact ⟨k + 1,_,_,by rw [HNx.out],by go_num,HI7.out⟩
   case measure => simp; omega
  | true =>
   rw [hB] at hcon
   obtain ⟨j,hjk,hje⟩:=hh.1 hB
   obtain ⟨g,cap,hv,_,_,hkc,_,_⟩:=GenL.own_form hown (by omega)
   injection hv with hv1 hv2 hv3
   subst hv1 hv3
   have hix:=indexS_any pth j (nm a) g c wr (by omega) hsr (by omega) (by rw [hpa,hje]) (fun i hi => hne j hjk hje i hi _)
   rw [hpl] at hix
   have hfin:=hend j g (c - j) hjk hje rfl
   have hcj:¬ c=j:=by omega
   have hjk2:j<=k:=by omega
   have hji:(j:Int)<=(k:Int):=by omega
   have HIx:=Lib.hid hix
   have HCon:=Lib.hid hcon
   have HFin:=Lib.hid hfin
   clear hix hcon hfin hne hend hpa hpl hps hstep hnx hh hsr hown' hown hik hb hB hje hv2 hau han hkn hjk
   go_wp2_with (first
    | (go_at_call 139; refine HCon.out.mono ?_; rintro e w5 ⟨rfl,rfl⟩)
    | (go_at_call 142; refine HIx.out.mono ?_; rintro e w5 ⟨rfl,rfl⟩))
   go_ret
   exact ⟨_,rfl,HFin.out,b_trans HB1.out Hb.out⟩
def nmF (fs:List GenL.Fd) (i:Nat):ByteArray:=((fs[i]?).map GenL.Fd.nm).getD ⟨#[]⟩
theorem nmF_at (fs:List GenL.Fd) (i:Nat) (h:i < fs.length):nmF fs i=fs[i].nm:=by unfold nmF; rw [List.getElem?_eq_getElem h]; rfl
set_option maxRecDepth 100000 in
set_option maxHeartbeats 4000000 in
theorem of_cyc (fs:List GenL.Fd) (X:Nat->Ex) (FA:Option Addr) (fc at0:Nat) (w:World) (hm:fs.length<=14) (hf:Flds w FA fs) (hX:Forms w fs X) (hT:Tab w) (hcap:fs.length<=fc/\fc<=maxLen) (h0:checkF fs X=0)
  (hat:at0 < fs.length) (hau:rk (rankF (needsF fs X)) at0=-1) (hfst:∀ j,j < at0->rk (rankF (needsF fs X)) j ≠ -1) (hinj:∀ i j,i < fs.length->j < fs.length->nmF fs i=nmF fs j->i=j) :
  Calls Tryz.prog 55 #[.slice FA fs.length fc] w fun e w' => ∃ v,e=.returned (.tuple #[.slice none 0 0,v,.int .i64 10])/\CycAt (nmF fs) (nxtF (needsF fs X) (rankF (needsF fs X))) at0 fs.length v w'/\Below w.heap.size w w':=by
 have hc:=FldC.check_any fs X FA fc w (Nat.le_trans hm (by decide)) hf hX hT hcap
 rw [h0] at hc
 clear h0
 have hd:∀ V:World,Below w.heap.size w V->Calls Tryz.prog 89 #[.slice FA fs.length fc] V (DirOut (needsF fs X) V):=fun V hV => direct_any fs X FA fc V hm (hf.below hV) (hX.below hV) (hT.below hV)
 have hok:=needsF_ok fs X hm
 have hnl:=needsF_len fs X
 obtain ⟨ns,hns⟩:∃ ns,needsF fs X=ns:=⟨_,rfl⟩
 rw [hns] at hd hok hnl hau hfst ⊢
 have hix:Lib.idxOf (rankF ns) (-1)=at0:=by
  have:=Lib.idxOf_hit (rankF ns) (rankF ns).length at0 (-1) (by rw [rankF_len,hnl]; exact hat) (Nat.le_refl _) hau hfst
  rwa [List.take_length] at this
 have hun:=un_needs (rankF_fix ns) (fun i => (bd_pass ns ns.length i).1)
 have hnm:∀ V,Below w.heap.size w V->∀ i,i < fs.length->∃ ad:Addr,FA=some ad/\V.cell? (ad.add (i * 9))=some (.string (nmF fs i)):=fun V hV i hi => by
  obtain ⟨ad,e,h⟩:=hf.below hV i hi
  exact ⟨ad,e,by rw [nmF_at fs i hi]; exact h.1⟩
 rw [hnl] at hun
 have hok2:=hok
 unfold Okn at hok2
 rw [hnl] at hok2
 have HC:=Lib.hid hc
 have HD:=Lib.hid hd
 have HI:=Lib.hid hix
 have HNl:=Lib.hid hnl
 have HUn:=Lib.hid hun
 have HOk2:=Lib.hid hok2
 have HNm:=Lib.hid hnm
 have HInj:=Lib.hid hinj
 have HAu:=Lib.hid hau
 have hn1:1<=fs.length:=by omega
 clear hnl hc hns hf hX hT hd hix hfst hun hok2 hnm hinj hau
 generalize nmF fs=nm at HNm HInj ⊢
 generalize fs.length=n at *
 go_enter Tryz.func55,Tryz.ntmps55
 go_wp2_with fail
 refine HC.out.mono ?_; rintro e w1 ⟨rfl,hb⟩
 have HB:=Lib.hid hb
 clear hb
 go_wp2_with fail
 refine (HD.out w1 HB.out).mono ?_; rintro e w2 ⟨A2,c2,rfl,hns2,hb2,-⟩
 have hrk:=ranked_any ns A2 c2 w2 hok hns2
 rw [HNl.out] at hrk ⊢
 have HR:=Lib.hid hrk
 have HB2:=Lib.hid (b_trans HB.out hb2)
 have HNs2:=Lib.hid hns2
 clear hrk hns2 hb2
 go_wp2_with fail
 refine HR.out.mono ?_; rintro e w3 ⟨v3,rfl,hown3,hb3⟩
 have hin:=index_any (rankF ns) (-1) v3 w2.heap.size w3 (by rw [rankF_len,HNl.out]; omega) (by rw [rankF_len]; exact hown3)
 rw [HI.out] at hin
 obtain ⟨gR,rc,rfl,_,hgl,_,_,hcl⟩:=GenL.own_form hown3 (by rw [HNl.out]; omega)
 rw [HNl.out] at hin
 have HIn:=Lib.hid hin
 have hcyc:=cycle_any FA A2 fc c2 gR rc ns (rankF ns) nm n at0 w3 (fun V hV => HNm.out V (b_trans HB2.out (b_trans hb3 hV))) (fun V hV i hi => by
  obtain ⟨g,e,Ai,ci,h1,h2⟩:=(HNs2.out.below (b_trans hb3 hV)) i (by rw [HNl.out]; exact hi)
  exact ⟨g,Ai,ci,e,h1,h2⟩) (fun j hj => by
  rw [hcl j (by rw [HNl.out]; omega),iV_at _ _ (by rw [rankF_len,HNl.out]; exact hj)]) hgl hn1 hm HOk2.out.2 HInj.out HUn.out hat HAu.out
 have HCyc:=Lib.hid hcyc
 have HB3:=Lib.hid (b_trans HB2.out hb3)
 rw [HNl.out]
 clear hb3 hown3 hin hcl hcyc hgl
 go_wp2_with fail
 refine HIn.out.mono ?_; rintro e w4 ⟨rfl,rfl⟩
 have hge:(0:Int)<=(at0:Int):=by omega
 go_wp2_with fail
 refine HCyc.out.mono ?_; rintro e w5 ⟨v,rfl,hv,hb5⟩
 have HV:=Lib.hid hv
 have HB5:=Lib.hid (b_trans HB3.out hb5)
 clear hv hb5
 go_wp2_with fail
 exact bodyPost_ret (v:=.tuple #[.slice none 0 0,v,.int .i64 10]) (by simp [results,Tryz.results55,go_sem]) rfl ⟨v,rfl,HV.out,HB5.out⟩
end CycO
namespace RkV
open Go.RowKit
open ExM NmM Kit RkM RkA RkB RkC RkD RkO RkL CycO SMp
set_option linter.unusedVariables false
end RkV
namespace RkW
open Go.RowKit Go.Maps
open ValM LexM NumM ExM NmM Kit ExL ExP ExN ExC RawV Within RawL GenL FldP FldR FldC TyM Ty NmO NmA NmI NmT NmR RkM RkA RkB RkC RkD RkO RkL CycO SMp RkV
set_option linter.unusedVariables false
end RkW
namespace RkX
open Go.RowKit
open ValM LexM NumM ExM NmM Kit ExL ExP ExN ExC RawV Within RawL GenL FldP FldR FldC TyM Ty NmO NmA NmI NmT NmR RkM RkA RkB RkC RkD RkO RkL CycO SMp RkV RkW
set_option linter.unusedVariables false
end RkX
namespace RkY
open Go.RowKit
open ValM LexM NumM ExM NmM Kit ExL ExP ExN ExC RawV Within RawL GenL FldP FldR FldC TyM Ty NmO NmA NmI NmT NmR RkM RkA RkB RkC RkD RkO RkL CycO SMp RkV RkW RkX EvP
set_option linter.unusedVariables false
theorem valid_own {fs:List GenL.Fd} {X:Nat->Ex} (h0:checkF fs X=0):fs.length<=14/\(∀ k (hk:k < fs.length),rightE fs[k] (X k)=0/\atF fs fs[k].nm=k)/\∀ k (hk:k < fs.length),srcE fs fs[k] (X k)=0:=by
 unfold checkF at h0
 by_cases hl:14 < fs.length
 ·rw [if_pos hl] at h0; exact absurd h0 (by decide)
 ·rw [if_neg hl] at h0
  have hz:∀ (P:Nat->Int) (n:Nat),scan P n=0->∀ j,j < n->P j=0:=fun P n => by
   induction n with
   | zero => intro _ j hj; omega
   | succ n ih =>
    intro h j hj
    unfold scan at h
    by_cases e:scan P n=0
    ·rw [if_pos e] at h
     by_cases h2:j=n
     ·subst h2; exact h
     ·exact ih e j (by omega)
    ·rw [if_neg e] at h; exact absurd h e
  by_cases h1:scan (ownE fs X) fs.length=0
  ·rw [if_pos h1] at h0
   refine ⟨by omega,fun k hk => ?_,fun k hk => ?_⟩
   ·have h2:=hz _ _ h1 k hk
    unfold ownE at h2
    rw [dif_pos hk] at h2
    by_cases h3:rightE fs[k] (X k)=0
    ·rw [if_pos h3] at h2
     by_cases h4:atF fs fs[k].nm < k
     ·rw [if_pos h4] at h2; exact absurd h2 (by decide)
     ·refine ⟨h3,?_⟩
      rcases Nat.lt_or_ge k (atF fs fs[k].nm) with h5 | h5
      ·exfalso
       by_cases h6:atF fs fs[k].nm < fs.length
       ·exact (atF_at h6).2 k hk h5 rfl
       ·by_cases h7:∃ j,∃ hj:j < fs.length,fs[j].nm=fs[k].nm/\∀ i (hi:i < fs.length),i < j->fs[i].nm ≠ fs[k].nm
        ·obtain ⟨j,hj,e,hm⟩:=h7
         have:=atF_eq fs fs[k].nm j hj hm e
         omega
        ·have h8:∀ j (hj:j < fs.length),fs[j].nm ≠ fs[k].nm:=fun j => by
          refine Nat.strongRecOn j fun j ih hj e => h7 ⟨j,hj,e,fun i hi hij => ih i hij hi⟩
         exact h8 k hk rfl
      ·omega
    ·rw [if_neg h3] at h2; exact absurd h2 h3
   ·have h2:=hz _ _ h0 k hk
    unfold typE at h2
    rwa [dif_pos hk] at h2
  ·rw [if_neg h1] at h0; exact absurd h0 h1
theorem valid_inj {fs:List GenL.Fd} {X:Nat->Ex} (h0:checkF fs X=0) (i j:Nat) (hi:i < fs.length) (hj:j < fs.length) (e:nmF fs i=nmF fs j):i=j:=by
 obtain ⟨_,h,_⟩:=valid_own h0
 rw [nmF_at fs i hi,nmF_at fs j hj] at e
 rw [← (h i hi).2,e,(h j hj).2]
end RkY
namespace ShE
open Go.RowKit
open ValM LexM NumM ExM NmM Kit ExL ExP ExN ExC RawV Within RawL GenL FldP FldR FldC FrmM PgM PgA RkM RkA RkO RkD CycO RkV RkW RkX RkY ShT ShL
set_option linter.unusedVariables false
open Classical in
noncomputable def rankE (fs:List GenL.Fd) (X:Nat->Ex):Int :=
 if checkF fs X=0 then (if ∀ i,i < fs.length->rk (rankF (needsF fs X)) i ≠ -1 then 0 else 10) else checkF fs X
theorem first_un {fs:List GenL.Fd} {X:Nat->Ex} (hall:¬ ∀ i,i < fs.length->rk (rankF (needsF fs X)) i ≠ -1):∃ i,i < fs.length/\rk (rankF (needsF fs X)) i=-1/\∀ j,j < i->rk (rankF (needsF fs X)) j ≠ -1:=by
 have hex:∃ i,i < fs.length/\rk (rankF (needsF fs X)) i=-1:=by
  refine Classical.byContradiction fun h => hall fun i hi e => h ⟨i,hi,e⟩
 obtain ⟨i,hi,he⟩:=hex
 refine Nat.strongRecOn (motive:=fun i => i < fs.length->rk (rankF (needsF fs X)) i=-1->_) i (fun m ih hm9 he9 => ?_) hi he
 by_cases h:∃ j,j < m/\rk (rankF (needsF fs X)) j=-1
 ·obtain ⟨j,hj,e⟩:=h
  exact ih j hj (by omega) e
 ·exact ⟨m,hm9,he9,fun j hj e => h ⟨j,hj,e⟩⟩
theorem rankOf_any (fs:List GenL.Fd) (X:Nat->Ex) (FA:Option Addr) (fc:Nat) (w:World) (hl:fs.length<=1048576) (hf:Flds w FA fs) (hX:Forms w fs X) (hT:Tab w) (hcap:fs.length<=fc/\fc<=maxLen) :
  ∀ V,Below w.heap.size w V->Calls Tryz.prog 55 #[.slice FA fs.length fc] V fun e w' => ∃ v p,e=.returned (.tuple #[v,p,.int .i64 (rankE fs X)])/\Below V.heap.size V w':=fun V hV => by
 unfold rankE
 by_cases h0:checkF fs X=0
 ·obtain ⟨hm,hv,_⟩:=valid_own h0
  rw [if_pos h0]
  by_cases hall:∀ i,i < fs.length->rk (rankF (needsF fs X)) i ≠ -1
  ·rw [if_pos hall]
   refine (of_ok fs X FA fc V hm (hf.below hV) (hX.below hV) (hT.below hV) hcap h0 (fun i hi => by
    have h1:=hall i hi
    have h2:-1<=rk (rankF (needsF fs X)) i:=(bd_pass (needsF fs X) (needsF fs X).length i).1
    omega)).mono fun e w' h => ?_
   obtain ⟨v,rfl,hown,hb⟩:=h
   exact ⟨v,_,rfl,hb⟩
  ·rw [if_neg hall]
   obtain ⟨at0,hat,hau,hfst⟩:=first_un hall
   refine (of_cyc fs X FA fc at0 V hm (hf.below hV) (hX.below hV) (hT.below hV) hcap h0 hat hau hfst (valid_inj h0)).mono fun e w' h => ?_
   obtain ⟨v,rfl,hc,hb⟩:=h
   exact ⟨_,v,rfl,hb⟩
 ·rw [if_neg h0]
  refine (of_bad fs X FA fc V (by omega) (hf.below hV) (hX.below hV) (hT.below hV) hcap h0).mono fun e w' h => ?_
  obtain ⟨rfl,hb⟩:=h
  exact ⟨_,_,rfl,hb⟩
noncomputable def formE (F:List GenL.Fd) (X:Nat->Ex) (P:List PE):Int:=if rankE F X=0 then checkP F P else rankE F X
structure FormIn (F:List GenL.Fd) (X:Nat->Ex) (FA:Option Addr) (fc:Nat) (P:List PE) (PA:Option Addr) (pc:Nat) (w:World):Prop where
 fn:F.length<=1048576
 fl:Flds w FA F
 fx:Forms w F X
 fN:∀ k,k < F.length->(X k).nodes<=1048576
 fcap:F.length<=fc/\fc<=maxLen
 pg:Pgs w PA P
 ok:PgsOk w P
 pcap:P.length<=pc/\pc<=maxLen
 pn:P.length<=1048576
 pN:∀ e ∈ P,e.fs.length<=1048576/\e.x.nodes<=1048576
theorem check_any {F:List GenL.Fd} {X:Nat->Ex} {FA:Option Addr} {fc:Nat} {P:List PE} {PA:Option Addr} {pc:Nat} {w:World} (h:FormIn F X FA fc P PA pc w) (ht:Tab w) :
  ∀ V,Below w.heap.size w V->Calls Tryz.prog 25 #[.agg #[.slice FA F.length fc,.slice PA P.length pc]] V fun e w' => e=.returned (.int .i64 (formE F X P))/\Below V.heap.size V w':=fun V hV => by
 refine ShT.check_any F.length FA fc P.length PA pc (rankE F X) (checkP F P) V (fun V' hV' => rankOf_any F X FA fc w h.fn h.fl h.fx ht h.fcap V' (hV.trans (hV'.mono hV.size))) (fun _ V' hV' => ?_)
 have hb:=hV.trans (hV'.mono hV.size)
 exact PgB.check_any P PA pc F FA fc V' h.fn (h.fl.below hb) (fun k hk => (h.fx k hk).1) (h.pg.below hb) (h.ok.below hb) (by have:=h.pn; unfold maxLen; omega) (fun e he => (h.pN e he).1) (ht.below hb) h.pcap
end ShE
end Go.Proofs.YtdefaeieiaegaaaGreatDoor
