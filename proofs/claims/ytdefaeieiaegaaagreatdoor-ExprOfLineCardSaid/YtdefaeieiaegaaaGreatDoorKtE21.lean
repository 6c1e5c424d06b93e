/- GenTop RawOpen NmGen TyGen FrmOf TxKeep: what these laws name of them. -/
import Derived.RangeFuncBox
import Derived.Deep.RegionHeld3
import Derived.Deep.AppendLies
import Derived.Deep.RegionLaw
import Derived.OwnWalk
import Derived.Deep.RegionWith
import Derived.RegionTactic
import Derived.BigRegion
import Derived.Laws.OwnMore
import Derived.Laws.Pointers
import Derived.Test.YtdefaeieiaegaaaGreatDoorChecked
import Derived.WalkKit
import Derived.ProofKit
import Derived.Lib.ConvBytes
import Derived.Lib.AtoiErrMem
import Derived.Laws.IdiomStrings
import Derived.WalkSpells
import Derived.WalkLawsBesides
import Derived.Outline
import Derived.Lib.Hide
import Derived.Deep.LoopGhost
import Derived.Below
import Derived.Deep.Draws
import GoSem.Claim
import Derived.Lib.Bytealg
import Derived.Lib.Small
import Derived.Lib.AtoiAll
import Derived.Test.YtdefaeieiaegaaaGreatDoorProg
import Derived.IntWalk
import Derived.ChangeAlike
import Derived.Deep.Slices
import Derived.OpenShut
import Derived.ChangeSame
import Derived.DataReads
import Derived.RangeFuncNested
import Derived.RangeFuncBound
import Derived.RangeFuncCalls
import Derived.RangeFuncLeaves
import Derived.Shelf.Abstract
import Derived.Shelf.RegionOpen
import Derived.OwnWalkIn
import Derived.TacticsInMore
import Derived.LoopNIn
import Derived.LoopIn
import Derived.Deep.QuietTactic
import Derived.ChangeOld
import Derived.Deep.DrawnRows
import Derived.LaidMore
import Derived.BigQuiet
import Derived.LaidLaws
import Derived.ChangeArms
import Derived.Lib.LaidTab
import Derived.WideShapes
import Derived.WalkSmall
import Derived.Maps.Own
import Derived.Maps.OwnSet
import Derived.Maps.AppendAt
import Derived.Maps.Range
import Derived.Maps.RangeWalk
import Derived.Deep.CutBlock
import Derived.Deep.DeepCutAuto
import Derived.Laws.Tables
import Derived.Laws.CopyOwn
import Derived.Deep.MidRow
import Derived.Calls
import Derived.Orders
import Derived.OrdersHeld
import Derived.Lib.UnsafeStr
import Derived.Lib.ItoaNum
import Derived.Lib.AtoiTie
import Derived.Lib.ItoaMem
import Derived.Lib.AppendIntMem
import Derived.Lib.ItoaLen
import Derived.Shelf.Strings.Builder1
import Derived.Shelf.Strings.Builder2
import Derived.Shelf.Strings.OnBuilder
import Derived.Shelf.Small.Bits
import Derived.Shelf.Small.Wraps
import Derived.Shelf.Strings.BuilderF
import Derived.Shelf.Strings.BuilderK
import Derived.Shelf.Strconv.Atoi
import Derived.Shelf.Strconv.Itoa0
import Derived.Shelf.Strconv.Itoa1
import Derived.Shelf.LaysM
import Derived.Shelf.Strconv.Itoa2
import Derived.Shelf.Strconv.Itoa3
import Derived.Shelf.Strconv.AtoiErrFast
import Derived.Shelf.Strconv.ParseIntEmpty
import Derived.Shelf.Strconv.AtoiFail
import Derived.Shelf.Strconv.Clone
import Derived.Shelf.Strconv.SyntaxError
import Derived.Shelf.LaysC
import Derived.Shelf.Strconv.ToError
import Derived.Shelf.Strconv.Lower
import Derived.Shelf.Strconv.ParseUint10
import Derived.Shelf.Strconv.ParseUint10Empty
import Derived.Shelf.Strconv.ParseUint10Any
import Derived.Shelf.Strconv.ParseInt10
import Derived.Shelf.Strconv.AtoiLong
import Derived.Shelf.Strconv.AtoiInnerAll
import Derived.Shelf.Strconv.RangeError
import Derived.Shelf.Strconv.ToErrorRange
import Derived.Shelf.Strconv.AtoiAll
import Derived.Shelf.Strconv.ErrVarAll
import Derived.Shelf.Strings.Search1
import Derived.Shelf.Strings.Search2
import Derived.Shelf.Strings.Search3
import Derived.Shelf.Strings.Cut
import Derived.Shelf.Strings.Count
import Derived.Shelf.Strings.Shaped
import Derived.Shelf.Strings.Prefix
import Derived.Shelf.Strings.Split
import Derived.Shelf.Bits.Mul64
import Derived.Shelf.Unicode.DecodeSlow
import Derived.Shelf.Slices.Turned
import Derived.Shelf.Slices.Equal
import Derived.Ground.Names2Prog
import Derived.Shelf.Slices.Clone
import Derived.Shelf.Slices.Empties2
import Derived.Ground.SlgfProg
import Derived.Shelf.SlicesE.IndexFunc
import Derived.Ground.SlgmProg
import Derived.Shelf.SortM.Plain
import Derived.Shelf.SortM.SortNone
import Derived.Lib.IndexMore
import Derived.Lib.Split
import Derived.Lib.Strings
import Derived.Lib.ReplaceLaws
import Derived.Lib.CountLaws
import Derived.Laws.AppendOwnNone
import Derived.Sort.EncStr
import Derived.StringKeys
import Derived.Lib.SplitLaws
import Derived.RangeFuncRecord
import Derived.RangeFuncWrites
import Derived.Maps.OwnIn
import Derived.Shelf.SlIter.Nil
import Derived.Ground.GgzProg
import Derived.Laws.Rows
import Derived.Tactics
import Derived.Tactics2
import Derived.Defers
import Derived.Recover
import Derived.RegionDies
import Derived.Test.YtdefaeieiaegaaaGreatDoorKtE01
import Derived.Test.YtdefaeieiaegaaaGreatDoorKtE04
import Derived.Test.YtdefaeieiaegaaaGreatDoorKtE05
import Derived.Test.YtdefaeieiaegaaaGreatDoorKtE08
import Derived.Test.YtdefaeieiaegaaaGreatDoorKtE09
import Derived.Test.YtdefaeieiaegaaaGreatDoorKtE10
import Derived.Test.YtdefaeieiaegaaaGreatDoorKtE11
import Derived.Test.YtdefaeieiaegaaaGreatDoorKtE12
import Derived.Test.YtdefaeieiaegaaaGreatDoorKtE13
import Derived.Test.YtdefaeieiaegaaaGreatDoorKtE19
import Derived.Test.YtdefaeieiaegaaaGreatDoorKtE20
namespace Go.Proofs.YtdefaeieiaegaaaGreatDoor
set_option linter.unusedVariables false
namespace Frm
end Frm
namespace FrmT
end FrmT
namespace GenV
end GenV
namespace KpS
end KpS
namespace PgF
end PgF
namespace RawN
end RawN
namespace RkK
end RkK
namespace RkS
end RkS
namespace Gen
open Go.RowKit
open ValM LexM NumM ExM Kit ExL ExP RawV Within RawL GenL
set_option linter.unusedVariables false
def OpT (op:Int) (ks:List Int) (kind:Int):Prop :=
 (op=17/\ks=[2,kind,kind]) ∨
 (kind=1/\((op=3/\ks=[1]) ∨ (op=18/\ks=[3]) ∨ (5<=op/\op<=9/\ks=[1,1]))) ∨
 (kind=2/\((op=4/\ks=[2]) ∨ (15<=op/\op<=16/\ks=[2,2]) ∨ ∃ j,1<=j/\j<=3/\11<=op/\op<=14/\ks=[j,j])) ∨
 (kind ≠ 1/\kind ≠ 2/\op=10/\ks=[3,3])
def Gn (fs:List GenL.Fd):Nat->Int->Ex->Prop
 | 0,kind,x => ∃ d,x=.mk d []/\LeafD fs kind d
 | k + 1,kind,x => (∃ d,x=.mk d []/\LeafD fs kind d) ∨
   ∃ op ks l,x=.mk ⟨op,0,0,⟨#[]⟩,⟨#[]⟩⟩ l/\OpT op ks kind/\l.length=ks.length/\∀ (i:Nat) (h1:i < l.length) (h2:i < ks.length),Gn fs k ks[i] l[i]
def cost:Nat->Nat
 | 0 => 2
 | k + 1 => 2 + 3 * cost k
def MadeOut (G:Nat) (A:Option Addr) (n c a:Nat) (R:Ex->Prop) (w:World) (e:Ending) (w':World):Prop :=
 ∃ (x:Ex) (d:Nd) (B:Option Addr) (m cp a':Nat),e=.returned (.agg #[.int .i64 d.op,.int .i64 d.k,.int .i64 d.n,.string d.s,.string d.nm,.slice B m cp])/\R x/\IsP (fun b => w.heap.size<=b) w' x d B m/\a'<=a/\Gen w' G A n c a'/\Gr G w w'
structure WInv (w:World) (G:Nat) (A:Option Addr) (n c a k:Nat) (fs:List GenL.Fd) (op:Int) (ks:List Int) (j:Nat) (es:List El) (v:Value) (wr:World):Prop where
 le:j<=ks.length
 len:es.length=j
 own:wr.ownsRow (w.heap.size + 2) 50 6 v es.length (elC es)
 is:∀ e ∈ es,IsP (fun b => w.heap.size + 2<=b/\some b ≠ v.ownBlock) wr e.x e.d e.A e.n
 gn:∀ (i:Nat) (h1:i < es.length) (h2:i < ks.length),Gn fs k ks[i] es[i].x
 res:wr.heap[w.heap.size]?=some (.cells #[.int .i64 0,.int .i64 0,.int .i64 0,.string ⟨#[]⟩,.string ⟨#[]⟩,.slice none 0 0] 50 (0,0))
 box:wr.heap[w.heap.size + 1]?=some (.cells #[.int .i64 op,.int .i64 0,.int .i64 0,.string ⟨#[]⟩,.string ⟨#[]⟩,v] 50 (0,0))
 gen:∃ a',a'<=a + j * cost k/\Gen wr G A n c a'
 gr:Gr G w wr
def ExprAt (k:Nat):Prop:=∀ (G n c a fc:Nat) (A FA:Option Addr) (fs:List GenL.Fd) (kind:Int) (w:World),Gen w G A n c a->Raws w A n c->Flds w FA fs->fs.length<=1000000->(∀ f ∈ fs,f.nm.size<=maxLen)->a + cost k<=1000000000 →
 Calls Tryz.prog 38 #[.pointer (some ⟨G,0,none⟩),.int .i64 kind,.slice FA fs.length fc,.int .i64 (k:Int)] w (MadeOut G A n c (a + cost k) (Gn fs k kind) w)
theorem app_keep {V W':World} {o:Obj} {b:Nat} {row:Option Nat} (hg:(V.alloc o).grownBy W' row) (hl:b < V.heap.size) (hne:some b ≠ row):W'.heap[b]?=V.heap[b]? :=
 (hg.block b (by simp; omega) hne).trans ((b_new V o).block b hl)
theorem own_far {w:World} {base:Nat} {e:TypeId} {size:Nat} {v:Value} {n:Nat} {xs:List Value} (h:w.ownsRow base e size v n xs) {b:Nat} (hb:b < base):some b ≠ v.ownBlock:=fun e => by
 have:=(h.lt b e.symm).1; omega
theorem WInv.step {w wr w5 w6:World} {G:Nat} {A:Option Addr} {n c a k:Nat} {fs:List GenL.Fd} {op:Int} {ks:List Int} {j:Nat} {es:List El} {v:Value} {x:Ex} {d:Nd} {B:Option Addr} {m cp a' a2 gg cap:Nat} {tmp:Obj} (h:WInv w G A n c a k fs op ks j es v wr) (hj:j < ks.length) (hG:G < w.heap.size)
  (ha':a'<=a + j * cost k) (hx:Gn fs k ks[j] x) (hisx:IsP (fun b => wr.drew.heap.size<=b) w5 x d B m) (ha2:a2<=a' + cost k) (hg2:Gen w5 G A n c a2) (hgr2:Gr G wr.drew w5)
  (hown6:w6.ownsRow (w.heap.size + 2) 50 6 (.slice (some ⟨gg,0,none⟩) (es.length + 1) cap) (es.length + 1) (elC es ++ [.int .i64 d.op,.int .i64 d.k,.int .i64 d.n,.string d.s,.string d.nm,.slice B m cp]))
  (hgrow6:(w5.alloc tmp).grownBy w6 v.ownBlock) (hat6:v.ownBlock=some gg ∨ gg=w5.heap.size + 1) :
  WInv w G A n c a k fs op ks (j + 1) (es ++ [⟨x,d,B,m,cp⟩]) (.slice (some ⟨gg,0,none⟩) (es.length + 1) cap) (w6.setCell ⟨w.heap.size + 1,5,none⟩ (.slice (some ⟨gg,0,none⟩) (es.length + 1) cap)):=by
 have hbl:=(Array.getElem?_eq_some_iff.1 h.box).1
 have hs5:wr.heap.size<=w5.heap.size:=hgr2.size
 have hgg:w.heap.size + 2<=gg:=(hown6.lt gg rfl).1
 have hge:Value.ownBlock (.slice (some ⟨gg,0,none⟩) (es.length + 1) cap)=some gg:=rfl
 have hov:∀ g,v.ownBlock=some g->w.heap.size + 2<=g/\g < wr.heap.size:=fun g hg => h.own.lt g hg
 -- blocks that all this leaves alone
 have f5:∀ b,b < w5.heap.size->some b ≠ v.ownBlock->b ≠ w.heap.size + 1->(w6.setCell ⟨w.heap.size + 1,5,none⟩ (.slice (some ⟨gg,0,none⟩) (es.length + 1) cap)).heap[b]?=w5.heap[b]?:=fun b hl hne hx =>
  (Below.heap_setCell w6 ⟨w.heap.size + 1,5,none⟩ _ b hx).trans (app_keep hgrow6 hl hne)
 have f0:∀ b,b < wr.heap.size->b ≠ G->some b ≠ v.ownBlock->b ≠ w.heap.size + 1->(w6.setCell ⟨w.heap.size + 1,5,none⟩ (.slice (some ⟨gg,0,none⟩) (es.length + 1) cap)).heap[b]?=wr.heap[b]?:=fun b hl hg hne hx =>
  (f5 b (by omega) hne hx).trans (hgr2.block b hl (fun e => hg (by injection e)))
 have hnb:∀ b,b < w.heap.size + 2->some b ≠ v.ownBlock:=fun b hb => own_far h.own hb
 refine ⟨hj,by simp [h.len],?_,?_,?_,?_,?_,?_,?_⟩
 ·rw [elC_snoc,List.length_append]
  refine World.ownsRow.kept (row:=some (w.heap.size + 1)) hown6 ⟨rfl,rfl,rfl,by simp [World.setCell],fun k _ hk => Below.heap_setCell _ _ _ k (fun e => hk (by rw [e]))⟩ (.inr ?_)
  rw [hge]; intro e; injection e with e; omega
 ·intro e he
  rcases List.mem_append.1 he with he | he
  ·refine IsP.keep (fun b hb hl => f0 b hl (by omega) hb.2 (by omega)) (fun b hb hl => ⟨hb.1,?_⟩) _ _ _ _ (h.is e he)
   rw [hge]; intro e; injection e with e
   rcases hat6 with g | g
   ·exact hb.2 (by rw [g,e])
   ·omega
  ·simp at he; subst he
   refine IsP.keep (fun b hb hl => ?_) (fun b hb hl => ⟨?_,?_⟩) _ _ _ _ hisx
   ·have hb':wr.heap.size<=b:=hb
    exact f5 b hl (fun e => by have:=(hov b e.symm).2; omega) (by omega)
   ·have hb':wr.heap.size<=b:=hb
    omega
   ·have hb':wr.heap.size<=b:=hb
    rw [hge]; intro e; injection e with e
    rcases hat6 with g | g
    ·have:=(hov gg g).2; omega
    ·omega
 ·intro i h1 h2
  by_cases hi:i < es.length
  ·rw [List.getElem_append_left hi]; exact h.gn i hi h2
  ·have hij:i=es.length:=by rw [List.length_append] at h1; simp at h1; omega
   subst hij
   have e1:ks[es.length]=ks[j]:=by congr 1; exact h.len
   simp only [List.getElem_concat_length]
   rw [e1]; exact hx
 ·exact (f0 _ (Array.getElem?_eq_some_iff.1 h.res).1 (by omega) (hnb _ (by omega)) (by omega)).trans h.res
 ·have h6:w6.heap[w.heap.size + 1]?=_:=((app_keep hgrow6 (by omega) (hnb _ (by omega))).trans (hgr2.block _ hbl (fun e => by injection e with e; omega))).trans h.box
  simp [World.setCell,Array.getElem?_modify,h6]
 ·refine ⟨a2,by rw [Nat.add_mul,Nat.one_mul]; omega,?_⟩
  exact (f5 G hg2.lt (hnb G (by omega)) (by omega)).trans hg2
 ·refine ⟨?_,?_,?_,?_,fun b hb hne => ?_⟩
  ·exact hgrow6.os.trans (hgr2.os.trans h.gr.os)
  ·exact hgrow6.tape.trans (hgr2.tape.trans h.gr.tape)
  ·exact hgrow6.output.trans (hgr2.output.trans h.gr.output)
  ·have h1:=h.gr.size
   have h2:=hgrow6.size
   simp [World.setCell] at h2 ⊢; omega
  ·exact (f0 b (by have:=h.gr.size; omega) (fun e => hne (by rw [e])) (hnb b (by omega)) (by omega)).trans (h.gr.block b hb hne)
theorem set6_heap {w:World} {B b:Nat} (h:b ≠ B) (v0 v1 v2 v3 v4 v5:Value):((((((w.setCell ⟨B,0,none⟩ v0).setCell ⟨B,1,none⟩ v1).setCell ⟨B,2,none⟩ v2).setCell ⟨B,3,none⟩ v3).setCell ⟨B,4,none⟩ v4).setCell ⟨B,5,none⟩ v5).heap[b]?=w.heap[b]?:=by
 rw [Below.heap_setCell _ ⟨B,5,none⟩ _ b h,Below.heap_setCell _ ⟨B,4,none⟩ _ b h,Below.heap_setCell _ ⟨B,3,none⟩ _ b h,Below.heap_setCell _ ⟨B,2,none⟩ _ b h,Below.heap_setCell _ ⟨B,1,none⟩ _ b h,Below.heap_setCell _ ⟨B,0,none⟩ _ b h]
theorem infoEx:(Tryz.prog.info? 50).map (fun i => (i.zero,i.size,i.bytes))=some (some (.agg #[.int .i64 0,.int .i64 0,.int .i64 0,.string ⟨#[]⟩,.string ⟨#[]⟩,.slice none 0 0]),6,80):=by kernel_rfl
set_option maxHeartbeats 2000000 in
set_option maxRecDepth 100000 in
theorem with_any (k:Nat) (hE:ExprAt k) (G n c a fc Bg Bf Bd kb kc:Nat) (A FA:Option Addr) (fs:List GenL.Fd) (op:Int) (ks:List Int) (w:World) (hg:Gen w G A n c a) (hr:Raws w A n c) (hf:Flds w FA fs) (hfn:fs.length<=1000000) (hfs:∀ f ∈ fs,f.nm.size<=maxLen) (ha:a + ks.length * cost k<=1000000000)
  (h1:Boxed w Bg 71 (.pointer (some ⟨G,0,none⟩))) (h2:Boxed w Bf 22 (.slice FA fs.length fc)) (dp:Int) (hdp:dp=(k:Int) + 1) (h3:Boxed w Bd 3 (.int .i64 dp)) (h4:w.heap[kb]?=some (.cells (ks.map (Value.int .i64)).toArray 3 (0,0))) (hk0:0 < ks.length) (hks:ks.length<=3) (hk3:k<=1000000) :
  Calls Tryz.prog 76 #[.int .i64 op,.slice (some ⟨kb,0,none⟩) ks.length kc,.pointer (some ⟨Bg,0,none⟩),.pointer (some ⟨Bf,0,none⟩),.pointer (some ⟨Bd,0,none⟩)] w
   (MadeOut G A n c (a + ks.length * cost k) (fun x => ∃ l,x=.mk ⟨op,0,0,⟨#[]⟩,⟨#[]⟩⟩ l/\l.length=ks.length/\∀ (i:Nat) (h1:i < l.length) (h2:i < ks.length),Gn fs k ks[i] l[i]) w):=by
 obtain ⟨i0,hi,hz0,hz1,hz2⟩:=info_parts infoEx
 have gl:=hg.lt
 have l1:=h1.lt
 have l2:=h2.lt
 have l3:=h3.lt
 have l4:=(Array.getElem?_eq_some_iff.1 h4).1
 have n1:Bg ≠ G:=fun e => by subst e; unfold Boxed at h1; unfold RawL.Gen at hg; rw [h1] at hg; simp at hg
 have n2:Bf ≠ G:=fun e => by subst e; unfold Boxed at h2; unfold RawL.Gen at hg; rw [h2] at hg; simp at hg
 have n3:Bd ≠ G:=fun e => by subst e; unfold Boxed at h3; unfold RawL.Gen at hg; rw [h3] at hg; simp at hg
 have n4:kb ≠ G:=fun e => by subst e; unfold RawL.Gen at hg; rw [h4] at hg; simp at hg
 have hI0:∀ o1 o2,o1=Obj.cells #[.int .i64 0,.int .i64 0,.int .i64 0,.string ⟨#[]⟩,.string ⟨#[]⟩,.slice none 0 0] 50->o2=Obj.cells #[.int .i64 op,.int .i64 0,.int .i64 0,.string ⟨#[]⟩,.string ⟨#[]⟩,.slice none 0 0] 50->WInv w G A n c a k fs op ks 0 [] (.slice none 0 0) ((w.alloc o1).alloc o2):=fun o1 o2 e1 e2 => by
  subst e1 e2
  refine ⟨Nat.zero_le _,rfl,World.ownsRow_nil _ _ _ _,fun e he => by simp at he,fun i h => by simp at h,?_,?_,⟨a,by omega,(hg.alloc _).alloc _⟩,Gr.of_below (b_more (b_new _ _) _)⟩
  ·exact ((b_new (w.alloc _) _).block _ (by simp)).trans (World.alloc_heap_new w _)
  ·have:=World.alloc_heap_new (w.alloc (.cells #[.int .i64 0,.int .i64 0,.int .i64 0,.string ⟨#[]⟩,.string ⟨#[]⟩,.slice none 0 0] 50)) (.cells #[.int .i64 op,.int .i64 0,.int .i64 0,.string ⟨#[]⟩,.string ⟨#[]⟩,.slice none 0 0] 50)
   rw [World.size_alloc] at this; exact this
 have HI0:=Lib.hid (hI0 _ _ rfl rfl)
 have HR:=Lib.hid hr
 have HF:=Lib.hid hf
 have HG:=Lib.hid hg
 have HFS:=Lib.hid hfs
 have H1:=Lib.hid h1
 have H2:=Lib.hid h2
 have H3:=Lib.hid h3
 have H4:=Lib.hid h4
 have HN:=Lib.hid (And.intro n1 (And.intro n2 (And.intro n3 n4)))
 have HE:=Lib.hid hE
 have HDP:=Lib.hid hdp
 clear hdp
 clear hI0 hr hf hg hfs h1 h2 h3 h4 n1 n2 n3 n4 hE
 go_enter Tryz.func76,Tryz.ntmps76
 go_wp2_with fail
 go_loopw [15] (fun i wr => ∃ (j:Nat) (es:List El) (v:Value),i=.int .i64 j/\WInv w G A n c a k fs op ks j es v wr) (fun i _ => ks.length - (intOf i).toNat)
 case atStart => exact ⟨0,[],_,rfl,HI0.out⟩
 case round =>
  obtain ⟨j,es,v,rfl,hI⟩:=hrel
  have HI:=Lib.hid hI
  have hle:=hI.le
  have hs:=hI.gr.size
  have hs2:w.heap.size + 2<=wr.heap.size:=(Array.getElem?_eq_some_iff.1 hI.box).1
  by_cases hlt:j < ks.length
  ·obtain ⟨a',ha',hg'⟩:=hI.gen
   have c1:wr.cell? ⟨Bg,0,none⟩=some (.pointer (some ⟨G,0,none⟩)):=Boxed.cell ((hI.gr.block Bg l1 (fun e => HN.out.1 (by injection e))).trans H1.out)
   have c2:wr.cell? ⟨Bf,0,none⟩=some (.slice FA fs.length fc):=Boxed.cell ((hI.gr.block Bf l2 (fun e => HN.out.2.1 (by injection e))).trans H2.out)
   have c3:wr.cell? ⟨Bd,0,none⟩=some (.int .i64 dp):=Boxed.cell ((hI.gr.block Bd l3 (fun e => HN.out.2.2.1 (by injection e))).trans H3.out)
   have hkb:wr.heap[kb]?=some (.cells (ks.map (Value.int .i64)).toArray 3 (0,0)):=(hI.gr.block kb l4 (fun e => HN.out.2.2.2 (by injection e))).trans H4.out
   obtain ⟨kj,hkj⟩:∃ x,ks[j]=x:=⟨_,rfl⟩
   have HKJ:=Lib.hid hkj
   have c4:wr.cell? ⟨kb,j,none⟩=some (.int .i64 kj):=by simp [World.cell?,hkb,hlt,hkj]
   have c5:wr.cell? ⟨w.heap.size + 1,5,none⟩=some v:=by simp [World.cell?,hI.box]
   have h9:j * cost k + cost k<=ks.length * cost k:=by rw [← Nat.succ_mul]; exact Nat.mul_le_mul_right _ hlt
   have hgd:Gr G w wr.drew:=hI.gr.trans (Gr.of_below (b_drew (Below.refl _ _)))
   have hc:=HE.out G n c a' fc A FA fs kj wr.drew hg' (Gr.raws hgd HG.out HR.out) (Gr.flds hgd HG.out HF.out) hfn HFS.out (by omega)
   have HC:=Lib.hid hc
   have HGA:=Lib.hid (And.intro ha' hg')
   have hbox:=hI.box
   have hnG:w.heap.size + 1 ≠ G:=by omega
   have f5:∀ o,wr.frozen? ⟨w.heap.size + 1,o,none⟩=false:=fun o => by simp [World.frozen?,hbox]
   have hsum:IntKind.i64.wrap (dp - 1)=(k:Int):=by rw [IntWalk.i64_in _ (by have:=HDP.out; omega)]; have:=HDP.out; omega
   have hcs:∀ V,Gr G wr.drew V->(V.cell? ⟨Bg,0,none⟩=some (.pointer (some ⟨G,0,none⟩))/\V.cell? ⟨Bf,0,none⟩=some (.slice FA fs.length fc)/\V.cell? ⟨Bd,0,none⟩=some (.int .i64 dp)/\V.cell? ⟨w.heap.size + 1,5,none⟩=some v)/\(∀ o,V.frozen? ⟨w.heap.size + 1,o,none⟩=false):=fun V hV => by
    have hl5:=cell_lt' c5
    have b5:V.heap[w.heap.size + 1]?=wr.heap[w.heap.size + 1]?:=hV.block _ hl5 (fun e => hnG (by injection e))
    refine ⟨⟨(World.cell?_of_block (a:=⟨Bg,0,none⟩) (hV.block _ (cell_lt' c1) (fun e => HN.out.1 (by injection e)))).trans c1,(World.cell?_of_block (a:=⟨Bf,0,none⟩) (hV.block _ (cell_lt' c2) (fun e => HN.out.2.1 (by injection e)))).trans c2,(World.cell?_of_block (a:=⟨Bd,0,none⟩) (hV.block _ (cell_lt' c3) (fun e => HN.out.2.2.1 (by injection e)))).trans c3,(World.cell?_of_block (a:=⟨w.heap.size + 1,5,none⟩) b5).trans c5⟩,fun o => by simp [World.frozen?,b5,hbox]⟩
   have hcs2:∀ V W' o,Gr G wr.drew V->(V.alloc o).grownBy W' v.ownBlock->(W'.cell? ⟨Bg,0,none⟩=some (.pointer (some ⟨G,0,none⟩))/\W'.cell? ⟨Bf,0,none⟩=some (.slice FA fs.length fc)/\W'.cell? ⟨Bd,0,none⟩=some (.int .i64 dp)/\W'.cell? ⟨w.heap.size + 1,5,none⟩=some v)/\(∀ o,W'.frozen? ⟨w.heap.size + 1,o,none⟩=false):=fun V W' o hV hW => by
    obtain ⟨⟨p1,p2,p3,p5⟩,pf⟩:=hcs V hV
    have f:=fun b (hb:b < w.heap.size + 2) (hl:b < V.heap.size) => app_keep hW hl (own_far HI.out.own hb)
    have b5:=f (w.heap.size + 1) (by omega) (cell_lt' p5)
    exact ⟨⟨(World.cell?_of_block (a:=⟨Bg,0,none⟩) (f Bg (by omega) (cell_lt' p1))).trans p1,(World.cell?_of_block (a:=⟨Bf,0,none⟩) (f Bf (by omega) (cell_lt' p2))).trans p2,(World.cell?_of_block (a:=⟨Bd,0,none⟩) (f Bd (by omega) (cell_lt' p3))).trans p3,(World.cell?_of_block (a:=⟨w.heap.size + 1,5,none⟩) b5).trans p5⟩,fun o => (World.frozen?_of_block (a:=⟨w.heap.size + 1,o,none⟩) b5).trans (pf o)⟩
   have HCs:=Lib.hid hcs
   have HCs2:=Lib.hid hcs2
   have hl5:∀ V:World,Gr G wr.drew V->w.heap.size + 1 < V.heap.size:=fun V hV => Nat.lt_of_lt_of_le (show w.heap.size + 1 < wr.heap.size by omega) hV.size
   have hl6:∀ (V:World) (o:Obj),Gr G wr.drew V->w.heap.size + 2<=(V.alloc o).heap.size:=fun V o hV => by have:=hl5 V hV; simp; omega
   have HL5:=Lib.hid hl5
   have HL6:=Lib.hid hl6
   clear hl5 hl6
   have hel:es.length=j:=HI.out.len
   have hel1:es.length<=3:=by omega
   clear hkj hkb hI hc ha' hg' hcs hcs2 hbox hel
   go_wp2_with fail
   go_region_law (first
     | (refine step_append_lies _ (by rfl) _ _ _ (by rfl) (w.heap.size + 2) 50 i0 _ 6 80 Tryz.underlying48 hi hz0 hz1 hz2 rfl (by omega) v es.length (elC es) (by rfl) (own5.alloc _) ⟨w5.heap.size,0,none⟩ 1 1 [.int .i64 d.op,.int .i64 d.k,.int .i64 d.n,.string d.s,.string d.nm,.slice B m cp] (by rfl) (by rfl) (World.news_of_block (cs:=#[.int .i64 d.op,.int .i64 d.k,.int .i64 d.n,.string d.s,.string d.nm,.slice B m cp]) (t:=50) (fr:=(0,0)) (heap_alloc_new w5 _)) (by simp [Value.oneCell']) (by omega) (by unfold maxLen; omega) (by omega) hz6 (w5.heap.size + 1) (by simp) ?_; intro gg cap w6 hown6 hgrow6 hat6 hlt6; obtain ⟨⟨q1',q2',q3',q5'⟩,qf'⟩:=HCs2.out w5 w6 _ HX.out.2.2.2.2 hgrow6; have H6:=Lib.hid (And.intro hown6 (And.intro hgrow6 (And.intro hat6 hlt6))); clear hown6 hgrow6 hat6)
     | (go_simp; go_at_call 38; (with_reducible refine HC.out.mono ?_); rintro e w5 ⟨x,d,B,m,cp,a2,rfl,hx,hisx,ha2,hg2,hgr2⟩; obtain ⟨⟨q1,q2,q3,q5⟩,qf⟩:=HCs.out w5 hgr2; have own5:=HI.out.own.kept (Gr.trans (Gr.of_below (b_drew (Below.refl _ _))) hgr2) (.inr (own_far HI.out.own (b:=G) (by omega)).symm); have hz5:=HL5.out w5 hgr2; have hz6:=HL6.out w5 (.cells #[.int .i64 d.op,.int .i64 d.k,.int .i64 d.n,.string d.s,.string d.nm,.slice B m cp] 50) hgr2; have HX:=Lib.hid (And.intro hx (And.intro hisx (And.intro ha2 (And.intro hg2 hgr2)))); clear hx hisx ha2 hg2 hgr2))
   all_goals
    have hN:=HI.out.step (x:=x) (d:=d) (B:=B) (m:=m) (cp:=cp) (tmp:=.cells #[.int .i64 d.op,.int .i64 d.k,.int .i64 d.n,.string d.s,.string d.nm,.slice B m cp] 50) hlt gl HGA.out.1 (by rw [HKJ.out]; exact HX.out.1) HX.out.2.1 HX.out.2.2.1 HX.out.2.2.2.1 HX.out.2.2.2.2 H6.out.1 H6.out.2.1 H6.out.2.2.1
    have HN:=Lib.hid hN
    clear hN q1 q2 q3 q5 qf q1' q2' q3' q5' qf' own5 H6 HX HC HCs HCs2 hsum c1 c2 c3 c4 c5 f5
    go_wp2_with fail
    go_roundw
    case rel => exact ⟨j + 1,_,_,by go_num,HN.out⟩
    case measure => simp [intOf]; omega
  ·have hjl:j=ks.length:=by omega
   have hel:=hI.len
   obtain ⟨g,cap,rfl,hgl,_,hlc,hcm,hcl⟩:=own_form hI.own (by omega)
   have hrow:=isP_row (P:=fun b => w.heap.size + 2<=b) (d:=⟨op,0,0,⟨#[]⟩,⟨#[]⟩⟩) hcl hgl (by omega) (Nat.zero_le _) (Nat.zero_le _) (fun e he => (hI.is e he).imp fun b hb _ => hb.1)
   obtain ⟨a',ha',hg'⟩:=hI.gen
   rw [hjl] at ha'
   have hc8:∀ o,wr.cell? ⟨w.heap.size + 1,o,none⟩=(#[.int .i64 op,.int .i64 0,.int .i64 0,.string ⟨#[]⟩,.string ⟨#[]⟩,.slice (some ⟨g,0,none⟩) es.length cap]:Array Value)[o]?:=fun o => by simp [World.cell?,hI.box]
   have hc7:∀ o,wr.cell? ⟨w.heap.size,o,none⟩=(#[.int .i64 0,.int .i64 0,.int .i64 0,.string ⟨#[]⟩,.string ⟨#[]⟩,.slice none 0 0]:Array Value)[o]?:=fun o => by simp [World.cell?,hI.res]
   have hf7:∀ o,wr.frozen? ⟨w.heap.size,o,none⟩=false:=fun o => by simp [World.frozen?,hI.res]
   have hL:(es.map El.x).length=ks.length/\∀ (i:Nat) (h1:i < (es.map El.x).length) (h2:i < ks.length),Gn fs k ks[i] (es.map El.x)[i]:=by
    refine ⟨by rw [List.length_map,hel,hjl],fun i h1 h2 => ?_⟩
    rw [List.getElem_map]
    exact hI.gn i (by simpa using h1) h2
   have HL:=Lib.hid hL
   have HGR:=Lib.hid hI.gr
   have HGN:=Lib.hid hg'
   have HRow:=Lib.hid hrow
   clear hI hL hg' hrow hcl hjl hel
   go_wp2_with fail
   refine bodyPost_ret (v:=.agg #[.int .i64 op,.int .i64 0,.int .i64 0,.string ⟨#[]⟩,.string ⟨#[]⟩,.slice (some ⟨g,0,none⟩) es.length cap]) (by simp [results,Tryz.results76,go_sem,hc7]) rfl ?_
   refine ⟨_,⟨op,0,0,⟨#[]⟩,⟨#[]⟩⟩,some ⟨g,0,none⟩,es.length,cap,a',rfl,⟨_,rfl,HL.out⟩,IsP.keep (fun b hb hl => set6_heap (by omega) _ _ _ _ _ _) (fun b hb hl => by omega) _ _ _ _ HRow.out,ha',?_,?_⟩
   ·have:=HGN.out
    repeat' (first | (with_reducible exact this) | (with_reducible refine Gen.far ?_ ?_ _) | (dsimp only; omega))
   ·have:=HGR.out
    repeat' (first | (with_reducible exact this) | (with_reducible refine Gr.set ?_ ?_) | (dsimp only; omega))
end Gen
namespace GenE
open Go.RowKit
open ValM LexM NumM ExM Kit ExL ExP RawV Within RawL GenL Gen
set_option linter.unusedVariables false
theorem leaf_sizes {fs:List GenL.Fd} {kind:Int} {d:Nd} (hfs:∀ f ∈ fs,f.nm.size<=maxLen) (h:LeafD fs kind d):d.s.size<=maxLen/\d.nm.size<=maxLen:=by
 rcases h with ⟨_,h2,h3,h4,_⟩ | ⟨_,_,_,h4,f,hf,h5,_⟩
 ·refine ⟨?_,by rw [h2]; exact Nat.zero_le _⟩
  unfold knownB at h4
  simp only [Bool.and_eq_true,decide_eq_true_eq] at h4
  have hz:=h4.2
  unfold valE at hz
  by_cases hn:numE d.k d.n=0
  ·rw [if_pos hn] at hz
   unfold strE at hz
   by_cases h3:d.k=3
   ·rw [if_pos h3] at hz
    by_cases h40:40 < d.s.data.toList.length
    ·rw [if_pos h40] at hz; exact absurd hz (by decide)
    ·have:d.s.data.toList.length=d.s.size:=rfl
     unfold maxLen; omega
   ·rw [if_neg h3] at hz
    by_cases he:d.s.data.toList=[]
    ·have:d.s.data.toList.length=d.s.size:=rfl
     rw [he] at this; simp at this; unfold maxLen; omega
    ·rw [if_neg he] at hz; exact absurd hz (by decide)
  ·rw [if_neg hn] at hz; exact absurd hz hn
 ·exact ⟨by rw [h4]; exact Nat.zero_le _,by rw [← h5]; exact hfs f hf⟩
theorem gn_leaf {fs:List GenL.Fd} {k:Nat} {kind:Int} {d:Nd} (h:LeafD fs kind d):Gn fs k kind (.mk d []):=by
 cases k with
 | zero => exact ⟨d,rfl,h⟩
 | succ k => exact .inl ⟨d,rfl,h⟩
theorem fin_made {R:Ex->Prop} {G n c a a' m cp r:Nat} {A B:Option Addr} {w V w7:World} {x:Ex} {d:Nd} (hGw:G < w.heap.size) (h1:Gr G w V) (h7:Gr G V w7) (hR:R x) (hi:IsP (fun b => V.heap.size<=b) w7 x d B m) (ha:a'<=a) (hg:Gen w7 G A n c a') (hr1:w.heap.size<=r) (hr2:r < V.heap.size) :
  MadeOut G A n c a R w (.returned (.agg #[.int .i64 d.op,.int .i64 d.k,.int .i64 d.n,.string d.s,.string d.nm,.slice B m cp])) ((((((w7.setCell ⟨r,0,none⟩ (.int .i64 d.op)).setCell ⟨r,1,none⟩ (.int .i64 d.k)).setCell ⟨r,2,none⟩ (.int .i64 d.n)).setCell ⟨r,3,none⟩ (.string d.s)).setCell ⟨r,4,none⟩ (.string d.nm)).setCell ⟨r,5,none⟩ (.slice B m cp)):=by
 refine ⟨x,d,B,m,cp,a',rfl,hR,IsP.keep (fun b hb hl => set6_heap (by omega) _ _ _ _ _ _) (fun b hb hl => Nat.le_trans h1.size hb) _ _ _ _ hi,ha,?_,?_⟩
 ·repeat' (first | (with_reducible exact hg) | (with_reducible refine Gen.far ?_ ?_ _) | (dsimp only; omega))
 ·have:=h1.trans h7
  repeat' (first | (with_reducible exact this) | (with_reducible refine Gr.set ?_ ?_) | (dsimp only; omega))
theorem gn_made {fs:List GenL.Fd} {k:Nat} {kind op:Int} {ks:List Int} (ho:OpT op ks kind) {x:Ex} (h:∃ l,x=.mk ⟨op,0,0,⟨#[]⟩,⟨#[]⟩⟩ l/\l.length=ks.length/\∀ (i:Nat) (h1:i < l.length) (h2:i < ks.length),Gn fs k ks[i] l[i]):Gn fs (k + 1) kind x:=by
 obtain ⟨l,h1,h2,h3⟩:=h
 exact .inr ⟨op,ks,l,h1,ho,h2,h3⟩
theorem five (q:Nat) (h:q < 5):([.int .i64 5,.int .i64 6,.int .i64 7,.int .i64 8,.int .i64 9]:List Value)[q]'(by simpa using h)=.int .i64 ((q:Int) + 5):=by
 obtain rfl | rfl | rfl | rfl | rfl:q=0 ∨ q=1 ∨ q=2 ∨ q=3 ∨ q=4:=by omega
 all_goals rfl
theorem cost_pos (k:Nat):2<=cost k:=by cases k <;> simp [cost]
set_option maxHeartbeats 8000000 in
set_option maxRecDepth 100000 in
theorem expr_any (k:Nat) (deep:Nat) (hdeep:deep=0 ∨ (deep=k + 1/\ExprAt k)) (G n c a fc:Nat) (A FA:Option Addr) (fs:List GenL.Fd) (kind:Int) (w:World) (hg:Gen w G A n c a) (hr:Raws w A n c) (hf:Flds w FA fs) (hfn:fs.length<=1000000) (hfs:∀ f ∈ fs,f.nm.size<=maxLen) (ha:a + cost deep<=1000000000) (hd1:deep<=1000000) :
  Calls Tryz.prog 38 #[.pointer (some ⟨G,0,none⟩),.int .i64 kind,.slice FA fs.length fc,.int .i64 (deep:Int)] w (MadeOut G A n c (a + cost deep) (Gn fs deep kind) w):=by
 have hc2:=cost_pos deep
 have gl:=hg.lt
 obtain ⟨dp,hdp⟩:∃ dp:Int,(deep:Int)=dp:=⟨_,rfl⟩
 rw [hdp]
 have hgr0:∀ o1 o2 o3 o4,Gr G w ((((w.alloc o1).alloc o2).alloc o3).alloc o4):=fun o1 o2 o3 o4 => Gr.of_below (b_more (b_more (b_more (b_new _ _) _) _) _)
 have hn:∀ o1 o2 o3 o4,Calls Tryz.prog 36 #[.pointer (some ⟨G,0,none⟩)] ((((w.alloc o1).alloc o2).alloc o3).alloc o4) (NextOut G A n c a ((((w.alloc o1).alloc o2).alloc o3).alloc o4)):=fun o1 o2 o3 o4 =>
  next_any G n c a A _ ((((hg.alloc o1).alloc o2).alloc o3).alloc o4) (Gr.raws (hgr0 o1 o2 o3 o4) hg hr) (by omega)
 have hmf:∀ (fn:Fn) (first cap:Array Value) (w:World),(Instr.makeFunc fn first cap).run Tryz.prog w=.ok (.func fn first cap) w:=fun _ _ _ _ => rfl
 obtain ⟨M,hM⟩:∃ M,MadeOut G A n c (a + cost deep) (Gn fs deep kind) w=M:=⟨_,rfl⟩
 rw [hM]
 have HM:=Lib.hid hM
 have HN:=Lib.hid hn
 have HG:=Lib.hid hg
 have HR:=Lib.hid hr
 have HF:=Lib.hid hf
 have HGr:=Lib.hid hgr0
 have HFS:=Lib.hid hfs
 have HDP:=Lib.hid hdp
 have HD:=Lib.hid hdeep
 clear hn hg hr hf hgr0 hfs hdp hdeep hM
 go_enter Tryz.func38,Tryz.ntmps38
 go_wp2_with fail
 refine (HN.out _ _ _ _).mono ?_; rintro e w1 ⟨K,X,Y,T,a',rfl,k0,k1,k2,k3,ha',hg2,hgr2⟩
 obtain ⟨W2,hW2⟩:∃ W2,w1.alloc (.cells #[.int .i64 K,.int .i64 X,.int .i64 Y,.string T] 75)=W2:=⟨_,rfl⟩
 have hgw:Gr G w W2:=by rw [← hW2]; exact ((HGr.out _ _ _ _).trans hgr2).trans (Gr.of_below (b_new _ _))
 have hg3:Gen W2 G A n c a':=by rw [← hW2]; exact hg2.alloc _
 have hsz2:w.heap.size + 4<=w1.heap.size:=by have:=hgr2.size; simp at this; omega
 have hsz3:W2.heap.size=w1.heap.size + 1:=by rw [← hW2]; simp
 have keep:∀ b,w.heap.size<=b->b < w.heap.size + 4->W2.heap[b]?=((((w.alloc (.cells #[.pointer (some ⟨G,0,none⟩)] 71)).alloc (.cells #[.slice FA fs.length fc] 22)).alloc (.cells #[.int .i64 dp] 3)).alloc (.cells #[.int .i64 0,.int .i64 0,.int .i64 0,.string ⟨#[]⟩,.string ⟨#[]⟩,.slice none 0 0] 50)).heap[b]?:=fun b h1 h2 => by
  rw [← hW2,(b_new w1 _).block b (by omega)]
  exact hgr2.block b (by simp; omega) (fun e => by injection e; omega)
 have q0:Boxed W2 w.heap.size 71 (.pointer (some ⟨G,0,none⟩)):=(keep _ (by omega) (by omega)).trans (((Boxed.new w _ _).alloc _).alloc _ |>.alloc _)
 have q1:Boxed W2 (w.heap.size + 1) 22 (.slice FA fs.length fc):=(keep _ (by omega) (by omega)).trans (by
  have:=Boxed.new (w.alloc (.cells #[.pointer (some ⟨G,0,none⟩)] 71)) 22 (.slice FA fs.length fc)
  rw [World.size_alloc] at this; exact (this.alloc _).alloc _)
 have q2:Boxed W2 (w.heap.size + 1 + 1) 3 (.int .i64 dp):=(keep _ (by omega) (by omega)).trans (by
  have:=Boxed.new ((w.alloc (.cells #[.pointer (some ⟨G,0,none⟩)] 71)).alloc (.cells #[.slice FA fs.length fc] 22)) 3 (.int .i64 dp)
  simp only [World.size_alloc] at this; exact this.alloc _)
 have q3:W2.heap[w.heap.size + 1 + 1 + 1]?=some (.cells #[.int .i64 0,.int .i64 0,.int .i64 0,.string ⟨#[]⟩,.string ⟨#[]⟩,.slice none 0 0] 50 (0,0)):=(keep _ (by omega) (by omega)).trans (by
  have:=World.alloc_heap_new (((w.alloc (.cells #[.pointer (some ⟨G,0,none⟩)] 71)).alloc (.cells #[.slice FA fs.length fc] 22)).alloc (.cells #[.int .i64 dp] 3)) (.cells #[.int .i64 0,.int .i64 0,.int .i64 0,.string ⟨#[]⟩,.string ⟨#[]⟩,.slice none 0 0] 50)
  simp only [World.size_alloc] at this; exact this)
 have q4:W2.heap[w1.heap.size]?=some (.cells #[.int .i64 K,.int .i64 X,.int .i64 Y,.string T] 75 (0,0)):=by rw [← hW2]; exact World.alloc_heap_new w1 _
 have e1:∀ b,b < w1.heap.size->w1.heap[b]?=W2.heap[b]?:=fun b hb => by rw [← hW2]; exact ((b_new w1 _).block b hb).symm
 have c0:w1.cell? ⟨w.heap.size,0,none⟩=some (.pointer (some ⟨G,0,none⟩)):=Boxed.cell ((e1 _ (by omega)).trans q0)
 have c1:w1.cell? ⟨w.heap.size + 1,0,none⟩=some (.slice FA fs.length fc):=Boxed.cell ((e1 _ (by omega)).trans q1)
 have c2:w1.cell? ⟨w.heap.size + 1 + 1,0,none⟩=some (.int .i64 dp):=Boxed.cell ((e1 _ (by omega)).trans q2)
 have z1:w.heap.size + 1 + 1 + 1 < w1.heap.size:=by omega
 have z0:w.heap.size + 1 + 1 < w1.heap.size:=by omega
 have z2:w.heap.size + 1 < w1.heap.size:=by omega
 have z3:w.heap.size < w1.heap.size:=by omega
 clear e1
 have hrw:Raws W2 A n c:=Gr.raws hgw HG.out HR.out
 have hfw:Flds W2 FA fs:=Gr.flds hgw HG.out HF.out
 obtain ⟨p1,hp1⟩:∃ p,pick K 3=p:=⟨_,rfl⟩
 obtain ⟨p2,hp2⟩:∃ p,pick X 6=p:=⟨_,rfl⟩
 obtain ⟨p3,hp3⟩:∃ p,pick Y 7=p:=⟨_,rfl⟩
 obtain ⟨p4,hp4⟩:∃ p,pick X 3=p:=⟨_,rfl⟩
 have b3:=pick_bd Y 7 (by decide)
 have b4:=pick_bd X 3 (by decide)
 rw [hp3] at b3
 rw [hp4] at b4
 obtain ⟨b30,b31⟩:=b3
 obtain ⟨b40,b41⟩:=b4
 have hP1:=fun W => picked_any K 3 W k0 (by decide) (by decide)
 have hP2:=fun W => picked_any X 6 W k1 (by decide) (by decide)
 have hP3:=fun W => picked_any Y 7 W k2 (by decide) (by decide)
 have hP4:=fun W => picked_any X 3 W k1 (by decide) (by decide)
 rw [hp1] at hP1
 rw [hp2] at hP2
 rw [hp3] at hP3
 rw [hp4] at hP4
 have HP1:=Lib.hid hP1
 have HP2:=Lib.hid hP2
 have HP3:=Lib.hid hP3
 have HP4:=Lib.hid hP4
 have HW2:=Lib.hid hW2
 have HS3:=Lib.hid hsz3
 have HGW:=Lib.hid hgw
 have HG3:=Lib.hid hg3
 have HRW:=Lib.hid hrw
 have HFW:=Lib.hid hfw
 have Q0:=Lib.hid q0
 have Q1:=Lib.hid q1
 have Q2:=Lib.hid q2
 have Q3:=Lib.hid q3
 have hsz4:w.heap.size + 5<=W2.heap.size:=by omega
 clear hP1 hP2 hP3 hP4 hp1 hp2 hp3 hp4 hgw hg3 hrw hfw q0 q1 q2 q3 q4 keep hg2 hgr2 hW2 hsz3
 -- what lies in the result's cell,wherever
 have hres:∀ V,Gr G W2 V->(∀ o,V.cell? ⟨w.heap.size + 1 + 1 + 1,o,none⟩=(#[.int .i64 0,.int .i64 0,.int .i64 0,.string ⟨#[]⟩,.string ⟨#[]⟩,.slice none 0 0]:Array Value)[o]?)/\∀ o,V.frozen? ⟨w.heap.size + 1 + 1 + 1,o,none⟩=false:=fun V hV => by
  have h3:V.heap[w.heap.size + 1 + 1 + 1]?=_:=(hV.block _ (by omega) (fun e => by injection e; omega)).trans Q3.out
  exact ⟨fun o => by simp [World.cell?,h3],fun o => by simp [World.frozen?,h3]⟩
 have HRes:=Lib.hid hres
 clear hres
 by_cases hleaf:deep=0 ∨ p1=0
 ·have hc:=leaf_any G n c a' fc A FA fs kind W2 HG3.out HRW.out HFW.out hfn (by omega)
  have HC:=Lib.hid hc
  clear hc
  obtain ⟨b,hb⟩:∃ b:Bool,decide (dp<=0)=b:=⟨_,rfl⟩
  have hb2:b=true ∨ (b=false/\p1=0):=by
   rcases hleaf with h | h
   ·left; rw [← hb]; have:=HDP.out; simp; omega
   ·cases b
    ·exact .inr ⟨rfl,h⟩
    ·exact .inl rfl
  clear hleaf
  rcases hb2 with rfl | ⟨rfl,rfl⟩
  all_goals
   go_wp2_with (go_at_call 18; (with_reducible refine (HP1.out _).mono ?_); rintro e w9 ⟨rfl,rfl⟩)
   rw [HW2.out]
   refine HC.out.mono ?_; rintro e w7 ⟨d,rfl,hld,⟨a2,ha2,hg7⟩,hgr7⟩
   obtain ⟨hc7,hf7⟩:=HRes.out w7 hgr7
   have HX:=Lib.hid (And.intro hld (And.intro hg7 hgr7))
   clear hld hg7 hgr7
   go_wp2_with fail
   refine bodyPost_ret (v:=.agg #[.int .i64 d.op,.int .i64 d.k,.int .i64 d.n,.string d.s,.string d.nm,.slice none 0 0]) (by simp [results,Tryz.results38,go_sem,hc7]) rfl ?_
   rw [← HM.out]
   exact fin_made gl HGW.out HX.out.2.2 (gn_leaf HX.out.1) (isP_leaf _ _ _ _ (leaf_sizes HFS.out HX.out.1).1 (leaf_sizes HFS.out HX.out.1).2) (by omega) HX.out.2.1 (by omega) (by omega)
 ·have t0:decide (dp<=0)=false:=decide_eq_false (by have:=HDP.out; omega)
  have t1:(p1 == 0)=false:=beq_eq_false_iff_ne.2 (fun h => hleaf (.inr h))
  have hdk:deep=k + 1/\ExprAt k:=by
   rcases HD.out with h | h
   ·exact absurd (.inl h) hleaf
   ·exact h
  have hdpk:dp=(k:Int) + 1:=by have:=HDP.out; have:=hdk.1; omega
  have hcost:a' + 3 * cost k<=a + cost deep:=by rw [hdk.1]; show a' + 3 * cost k<=a + (2 + 3 * cost k); omega
  have hwith:∀ (V:World) (op:Int) (ks:List Int) (kb kc n_:Nat),ks.length=n_->Below W2.heap.size W2 V->V.heap[kb]?=some (.cells (ks.map (Value.int .i64)).toArray 3 (0,0))->0 < n_->n_<=3 →
    Calls Tryz.prog 76 #[.int .i64 op,.slice (some ⟨kb,0,none⟩) n_ kc,.pointer (some ⟨w.heap.size,0,none⟩),.pointer (some ⟨w.heap.size + 1,0,none⟩),.pointer (some ⟨w.heap.size + 1 + 1,0,none⟩)] V
     (MadeOut G A n c (a' + n_ * cost k) (fun x => ∃ l,x=.mk ⟨op,0,0,⟨#[]⟩,⟨#[]⟩⟩ l/\l.length=ks.length/\∀ (i:Nat) (h1:i < l.length) (h2:i < ks.length),Gn fs k ks[i] l[i]) V):=fun V op ks kb kc n_ hn hV hkb h0 h3 => by
   subst hn
   have h4:ks.length * cost k<=3 * cost k:=Nat.mul_le_mul_right _ h3
   exact with_any k hdk.2 G n c a' fc w.heap.size (w.heap.size + 1) (w.heap.size + 1 + 1) kb kc A FA fs op ks V (HG3.out.below hV) (Gr.raws (Gr.of_below hV) HG3.out HRW.out) (HFW.out.below hV) hfn HFS.out (by omega) ((hV.block _ (by omega)).trans Q0.out) ((hV.block _ (by omega)).trans Q1.out) dp hdpk ((hV.block _ (by omega)).trans Q2.out) hkb h0 h3 (by omega)
  have HWith:=Lib.hid hwith
  have HDK:=Lib.hid hdk.1
  have HC3:=Lib.hid hcost
  clear hdk hdpk hcost hwith hleaf
  by_cases h2:p2=0
  ·have t2:(p2 == 0)=true:=beq_iff_eq.2 h2
   clear h2
   have hc:=HWith.out (W2.alloc (.cells #[.int .i64 2,.int .i64 kind,.int .i64 kind] 3)) (17) [2,kind,kind] (w1.heap.size + 1) 3 3 rfl (b_new _ _) (by rw [← HS3.out]; exact (World.alloc_heap_new W2 _)) (by decide) (by decide)
   have HC:=Lib.hid hc
   have hgv:Gr G W2 (W2.alloc (.cells #[.int .i64 2,.int .i64 kind,.int .i64 kind] 3)):=Gr.of_below (b_new _ _)
   have HGV:=Lib.hid hgv
   clear hc hgv
   go_wp2_with (first | (go_at_call 18; (with_reducible refine (HP1.out _).mono ?_); rintro e w9 ⟨rfl,rfl⟩) | (go_at_call 18; (with_reducible refine (HP2.out _).mono ?_); rintro e w9 ⟨rfl,rfl⟩) | (go_at_call 18; (with_reducible refine (HP3.out _).mono ?_); rintro e w9 ⟨rfl,rfl⟩) | (go_at_call 18; (with_reducible refine (HP4.out _).mono ?_); rintro e w9 ⟨rfl,rfl⟩))
   rw [HW2.out]
   (with_reducible refine HC.out.mono ?_); rintro e w7 ⟨x,d,B,m,cp,a2,rfl,hx,hisx,ha2,hg7,hgr7⟩
   obtain ⟨hc7,hf7⟩:=HRes.out w7 (HGV.out.trans hgr7)
   have HX:=Lib.hid (And.intro hx (And.intro hisx (And.intro ha2 (And.intro hg7 hgr7))))
   clear hx hisx ha2 hg7 hgr7
   go_wp2_with fail
   refine bodyPost_ret (v:=.agg #[.int .i64 d.op,.int .i64 d.k,.int .i64 d.n,.string d.s,.string d.nm,.slice B m cp]) (by simp [results,Tryz.results38,go_sem,hc7]) rfl ?_
   rw [← HM.out,HDK.out]
   have hle:=HC3.out
   rw [HDK.out] at hle
   have hx2:a2<=a' + 3 * cost k:=HX.out.2.2.1
   exact fin_made gl (HGW.out.trans HGV.out) HX.out.2.2.2.2 (gn_made (by unfold OpT; left; exact ⟨rfl,rfl⟩) HX.out.1) HX.out.2.1 (by omega) HX.out.2.2.2.1 (by omega) (by simp; omega)
  ·have t2:(p2 == 0)=false:=beq_eq_false_iff_ne.2 h2
   clear h2
   by_cases h3:kind=1
   ·subst h3
    by_cases h5:p3=0
    ·have t3:(p3 == 0)=true:=beq_iff_eq.2 h5
     clear h5
     have hc:=HWith.out (W2.alloc (.cells #[.int .i64 1] 3)) (3) [1] (w1.heap.size + 1) 1 1 rfl (b_new _ _) (by rw [← HS3.out]; exact (World.alloc_heap_new W2 _)) (by decide) (by decide)
     have HC:=Lib.hid hc
     have hgv:Gr G W2 (W2.alloc (.cells #[.int .i64 1] 3)):=Gr.of_below (b_new _ _)
     have HGV:=Lib.hid hgv
     clear hc hgv
     go_wp2_with (first | (go_at_call 18; (with_reducible refine (HP1.out _).mono ?_); rintro e w9 ⟨rfl,rfl⟩) | (go_at_call 18; (with_reducible refine (HP2.out _).mono ?_); rintro e w9 ⟨rfl,rfl⟩) | (go_at_call 18; (with_reducible refine (HP3.out _).mono ?_); rintro e w9 ⟨rfl,rfl⟩) | (go_at_call 18; (with_reducible refine (HP4.out _).mono ?_); rintro e w9 ⟨rfl,rfl⟩))
     rw [HW2.out]
     (with_reducible refine HC.out.mono ?_); rintro e w7 ⟨x,d,B,m,cp,a2,rfl,hx,hisx,ha2,hg7,hgr7⟩
     obtain ⟨hc7,hf7⟩:=HRes.out w7 (HGV.out.trans hgr7)
     have HX:=Lib.hid (And.intro hx (And.intro hisx (And.intro ha2 (And.intro hg7 hgr7))))
     clear hx hisx ha2 hg7 hgr7
     go_wp2_with fail
     refine bodyPost_ret (v:=.agg #[.int .i64 d.op,.int .i64 d.k,.int .i64 d.n,.string d.s,.string d.nm,.slice B m cp]) (by simp [results,Tryz.results38,go_sem,hc7]) rfl ?_
     rw [← HM.out,HDK.out]
     have hle:=HC3.out
     rw [HDK.out] at hle
     have hx2:a2<=a' + 1 * cost k:=HX.out.2.2.1
     exact fin_made gl (HGW.out.trans HGV.out) HX.out.2.2.2.2 (gn_made (by unfold OpT; right; left; exact ⟨rfl,.inl ⟨rfl,rfl⟩⟩) HX.out.1) HX.out.2.1 (by omega) HX.out.2.2.2.1 (by omega) (by simp; omega)
    ·have t3:(p3 == 0)=false:=beq_eq_false_iff_ne.2 h5
     by_cases h6:p3=1
     ·have t4:(p3 == 1)=true:=beq_iff_eq.2 h6
      clear h5 h6
      have hc:=HWith.out (W2.alloc (.cells #[.int .i64 3] 3)) (18) [3] (w1.heap.size + 1) 1 1 rfl (b_new _ _) (by rw [← HS3.out]; exact (World.alloc_heap_new W2 _)) (by decide) (by decide)
      have HC:=Lib.hid hc
      have hgv:Gr G W2 (W2.alloc (.cells #[.int .i64 3] 3)):=Gr.of_below (b_new _ _)
      have HGV:=Lib.hid hgv
      clear hc hgv
      go_wp2_with (first | (go_at_call 18; (with_reducible refine (HP1.out _).mono ?_); rintro e w9 ⟨rfl,rfl⟩) | (go_at_call 18; (with_reducible refine (HP2.out _).mono ?_); rintro e w9 ⟨rfl,rfl⟩) | (go_at_call 18; (with_reducible refine (HP3.out _).mono ?_); rintro e w9 ⟨rfl,rfl⟩) | (go_at_call 18; (with_reducible refine (HP4.out _).mono ?_); rintro e w9 ⟨rfl,rfl⟩))
      rw [HW2.out]
      (with_reducible refine HC.out.mono ?_); rintro e w7 ⟨x,d,B,m,cp,a2,rfl,hx,hisx,ha2,hg7,hgr7⟩
      obtain ⟨hc7,hf7⟩:=HRes.out w7 (HGV.out.trans hgr7)
      have HX:=Lib.hid (And.intro hx (And.intro hisx (And.intro ha2 (And.intro hg7 hgr7))))
      clear hx hisx ha2 hg7 hgr7
      go_wp2_with fail
      refine bodyPost_ret (v:=.agg #[.int .i64 d.op,.int .i64 d.k,.int .i64 d.n,.string d.s,.string d.nm,.slice B m cp]) (by simp [results,Tryz.results38,go_sem,hc7]) rfl ?_
      rw [← HM.out,HDK.out]
      have hle:=HC3.out
      rw [HDK.out] at hle
      have hx2:a2<=a' + 1 * cost k:=HX.out.2.2.1
      exact fin_made gl (HGW.out.trans HGV.out) HX.out.2.2.2.2 (gn_made (by unfold OpT; right; left; exact ⟨rfl,.inr (.inl ⟨rfl,rfl⟩)⟩) HX.out.1) HX.out.2.1 (by omega) HX.out.2.2.2.1 (by omega) (by simp; omega)
     ·have t4:(p3 == 1)=false:=beq_eq_false_iff_ne.2 h6
      obtain ⟨qn,hqn⟩:∃ qn:Nat,p3 - 2=qn:=⟨(p3 - 2).toNat,by omega⟩
      have hq5:qn < 5:=by omega
      have u0:0<=p3 - 2:=by omega
      have u1:p3 - 2 < 5:=by omega
      have u2:(p3 - 2).toNat=qn:=by omega
      have u3:=five qn hq5
      clear h5 h6 hqn
      have hc:=HWith.out ((W2.alloc (.cells #[.int .i64 5,.int .i64 6,.int .i64 7,.int .i64 8,.int .i64 9] 3)).alloc (.cells #[.int .i64 1,.int .i64 1] 3)) ((qn:Int) + 5) [1,1] (w1.heap.size + 1 + 1) 2 2 rfl (b_more (b_new _ _) _) (by rw [← HS3.out]; exact (by have:=World.alloc_heap_new (W2.alloc (.cells #[.int .i64 5,.int .i64 6,.int .i64 7,.int .i64 8,.int .i64 9] 3)) (.cells #[.int .i64 1,.int .i64 1] 3); rw [World.size_alloc] at this; exact this)) (by decide) (by decide)
      have HC:=Lib.hid hc
      have hgv:Gr G W2 ((W2.alloc (.cells #[.int .i64 5,.int .i64 6,.int .i64 7,.int .i64 8,.int .i64 9] 3)).alloc (.cells #[.int .i64 1,.int .i64 1] 3)):=Gr.of_below (b_more (b_new _ _) _)
      have HGV:=Lib.hid hgv
      clear hc hgv
      go_wp2_with (first | (go_at_call 18; (with_reducible refine (HP1.out _).mono ?_); rintro e w9 ⟨rfl,rfl⟩) | (go_at_call 18; (with_reducible refine (HP2.out _).mono ?_); rintro e w9 ⟨rfl,rfl⟩) | (go_at_call 18; (with_reducible refine (HP3.out _).mono ?_); rintro e w9 ⟨rfl,rfl⟩) | (go_at_call 18; (with_reducible refine (HP4.out _).mono ?_); rintro e w9 ⟨rfl,rfl⟩))
      rw [HW2.out]
      (with_reducible refine HC.out.mono ?_); rintro e w7 ⟨x,d,B,m,cp,a2,rfl,hx,hisx,ha2,hg7,hgr7⟩
      obtain ⟨hc7,hf7⟩:=HRes.out w7 (HGV.out.trans hgr7)
      have HX:=Lib.hid (And.intro hx (And.intro hisx (And.intro ha2 (And.intro hg7 hgr7))))
      clear hx hisx ha2 hg7 hgr7
      go_wp2_with fail
      refine bodyPost_ret (v:=.agg #[.int .i64 d.op,.int .i64 d.k,.int .i64 d.n,.string d.s,.string d.nm,.slice B m cp]) (by simp [results,Tryz.results38,go_sem,hc7]) rfl ?_
      rw [← HM.out,HDK.out]
      have hle:=HC3.out
      rw [HDK.out] at hle
      have hx2:a2<=a' + 2 * cost k:=HX.out.2.2.1
      exact fin_made gl (HGW.out.trans HGV.out) HX.out.2.2.2.2 (gn_made (by unfold OpT; right; left; exact ⟨rfl,.inr (.inr ⟨by omega,by omega,rfl⟩)⟩) HX.out.1) HX.out.2.1 (by omega) HX.out.2.2.2.1 (by omega) (by simp; omega)
   ·have t5:(kind == 1)=false:=beq_eq_false_iff_ne.2 h3
    by_cases h4:kind=2
    ·subst h4
     by_cases h5:p3=0
     ·have t3:(p3 == 0)=true:=beq_iff_eq.2 h5
      clear h5
      have hc:=HWith.out (W2.alloc (.cells #[.int .i64 2] 3)) (4) [2] (w1.heap.size + 1) 1 1 rfl (b_new _ _) (by rw [← HS3.out]; exact (World.alloc_heap_new W2 _)) (by decide) (by decide)
      have HC:=Lib.hid hc
      have hgv:Gr G W2 (W2.alloc (.cells #[.int .i64 2] 3)):=Gr.of_below (b_new _ _)
      have HGV:=Lib.hid hgv
      clear hc hgv
      go_wp2_with (first | (go_at_call 18; (with_reducible refine (HP1.out _).mono ?_); rintro e w9 ⟨rfl,rfl⟩) | (go_at_call 18; (with_reducible refine (HP2.out _).mono ?_); rintro e w9 ⟨rfl,rfl⟩) | (go_at_call 18; (with_reducible refine (HP3.out _).mono ?_); rintro e w9 ⟨rfl,rfl⟩) | (go_at_call 18; (with_reducible refine (HP4.out _).mono ?_); rintro e w9 ⟨rfl,rfl⟩))
      rw [HW2.out]
      (with_reducible refine HC.out.mono ?_); rintro e w7 ⟨x,d,B,m,cp,a2,rfl,hx,hisx,ha2,hg7,hgr7⟩
      obtain ⟨hc7,hf7⟩:=HRes.out w7 (HGV.out.trans hgr7)
      have HX:=Lib.hid (And.intro hx (And.intro hisx (And.intro ha2 (And.intro hg7 hgr7))))
      clear hx hisx ha2 hg7 hgr7
      go_wp2_with fail
      refine bodyPost_ret (v:=.agg #[.int .i64 d.op,.int .i64 d.k,.int .i64 d.n,.string d.s,.string d.nm,.slice B m cp]) (by simp [results,Tryz.results38,go_sem,hc7]) rfl ?_
      rw [← HM.out,HDK.out]
      have hle:=HC3.out
      rw [HDK.out] at hle
      have hx2:a2<=a' + 1 * cost k:=HX.out.2.2.1
      exact fin_made gl (HGW.out.trans HGV.out) HX.out.2.2.2.2 (gn_made (by unfold OpT; right; right; left; exact ⟨rfl,.inl ⟨rfl,rfl⟩⟩) HX.out.1) HX.out.2.1 (by omega) HX.out.2.2.2.1 (by omega) (by simp; omega)
     ·have t3:(p3 == 0)=false:=beq_eq_false_iff_ne.2 h5
      by_cases h6:p3 < 3
      ·have hop:p3 + 15 - 1=p3 + 14:=by omega
       have hc:=HWith.out (W2.alloc (.cells #[.int .i64 2,.int .i64 2] 3)) (15 + p3 - 1) [2,2] (w1.heap.size + 1) 2 2 rfl (b_new _ _) (by rw [← HS3.out]; exact (World.alloc_heap_new W2 _)) (by decide) (by decide)
       have HC:=Lib.hid hc
       have hgv:Gr G W2 (W2.alloc (.cells #[.int .i64 2,.int .i64 2] 3)):=Gr.of_below (b_new _ _)
       have HGV:=Lib.hid hgv
       clear hc hgv
       go_wp2_with (first | (go_at_call 18; (with_reducible refine (HP1.out _).mono ?_); rintro e w9 ⟨rfl,rfl⟩) | (go_at_call 18; (with_reducible refine (HP2.out _).mono ?_); rintro e w9 ⟨rfl,rfl⟩) | (go_at_call 18; (with_reducible refine (HP3.out _).mono ?_); rintro e w9 ⟨rfl,rfl⟩) | (go_at_call 18; (with_reducible refine (HP4.out _).mono ?_); rintro e w9 ⟨rfl,rfl⟩))
       rw [HW2.out]
       (with_reducible refine HC.out.mono ?_); rintro e w7 ⟨x,d,B,m,cp,a2,rfl,hx,hisx,ha2,hg7,hgr7⟩
       obtain ⟨hc7,hf7⟩:=HRes.out w7 (HGV.out.trans hgr7)
       have HX:=Lib.hid (And.intro hx (And.intro hisx (And.intro ha2 (And.intro hg7 hgr7))))
       clear hx hisx ha2 hg7 hgr7
       go_wp2_with fail
       refine bodyPost_ret (v:=.agg #[.int .i64 d.op,.int .i64 d.k,.int .i64 d.n,.string d.s,.string d.nm,.slice B m cp]) (by simp [results,Tryz.results38,go_sem,hc7]) rfl ?_
       rw [← HM.out,HDK.out]
       have hle:=HC3.out
       rw [HDK.out] at hle
       have hx2:a2<=a' + 2 * cost k:=HX.out.2.2.1
       exact fin_made gl (HGW.out.trans HGV.out) HX.out.2.2.2.2 (gn_made (by unfold OpT; right; right; left; exact ⟨rfl,.inr (.inl ⟨by omega,by omega,rfl⟩)⟩) HX.out.1) HX.out.2.1 (by omega) HX.out.2.2.2.1 (by omega) (by simp; omega)
      ·have t6:¬ p3 < 3:=h6
       have hc:=HWith.out (W2.alloc (.cells #[.int .i64 (1 + p4),.int .i64 (1 + p4)] 3)) (11 + p3 - 3) [1 + p4,1 + p4] (w1.heap.size + 1) 2 2 rfl (b_new _ _) (by rw [← HS3.out]; exact (World.alloc_heap_new W2 _)) (by decide) (by decide)
       have HC:=Lib.hid hc
       have hgv:Gr G W2 (W2.alloc (.cells #[.int .i64 (1 + p4),.int .i64 (1 + p4)] 3)):=Gr.of_below (b_new _ _)
       have HGV:=Lib.hid hgv
       clear hc hgv
       go_wp2_with (first | (go_at_call 18; (with_reducible refine (HP1.out _).mono ?_); rintro e w9 ⟨rfl,rfl⟩) | (go_at_call 18; (with_reducible refine (HP2.out _).mono ?_); rintro e w9 ⟨rfl,rfl⟩) | (go_at_call 18; (with_reducible refine (HP3.out _).mono ?_); rintro e w9 ⟨rfl,rfl⟩) | (go_at_call 18; (with_reducible refine (HP4.out _).mono ?_); rintro e w9 ⟨rfl,rfl⟩))
       rw [HW2.out]
       (with_reducible refine HC.out.mono ?_); rintro e w7 ⟨x,d,B,m,cp,a2,rfl,hx,hisx,ha2,hg7,hgr7⟩
       obtain ⟨hc7,hf7⟩:=HRes.out w7 (HGV.out.trans hgr7)
       have HX:=Lib.hid (And.intro hx (And.intro hisx (And.intro ha2 (And.intro hg7 hgr7))))
       clear hx hisx ha2 hg7 hgr7
       go_wp2_with fail
       refine bodyPost_ret (v:=.agg #[.int .i64 d.op,.int .i64 d.k,.int .i64 d.n,.string d.s,.string d.nm,.slice B m cp]) (by simp [results,Tryz.results38,go_sem,hc7]) rfl ?_
       rw [← HM.out,HDK.out]
       have hle:=HC3.out
       rw [HDK.out] at hle
       have hx2:a2<=a' + 2 * cost k:=HX.out.2.2.1
       exact fin_made gl (HGW.out.trans HGV.out) HX.out.2.2.2.2 (gn_made (by unfold OpT; right; right; left; exact ⟨rfl,.inr (.inr ⟨1 + p4,by omega,by omega,by omega,by omega,rfl⟩)⟩) HX.out.1) HX.out.2.1 (by omega) HX.out.2.2.2.1 (by omega) (by simp; omega)
    ·have t6:(kind == 2)=false:=beq_eq_false_iff_ne.2 h4
     have hc:=HWith.out (W2.alloc (.cells #[.int .i64 3,.int .i64 3] 3)) (10) [3,3] (w1.heap.size + 1) 2 2 rfl (b_new _ _) (by rw [← HS3.out]; exact (World.alloc_heap_new W2 _)) (by decide) (by decide)
     have HC:=Lib.hid hc
     have hgv:Gr G W2 (W2.alloc (.cells #[.int .i64 3,.int .i64 3] 3)):=Gr.of_below (b_new _ _)
     have HGV:=Lib.hid hgv
     clear hc hgv
     go_wp2_with (first | (go_at_call 18; (with_reducible refine (HP1.out _).mono ?_); rintro e w9 ⟨rfl,rfl⟩) | (go_at_call 18; (with_reducible refine (HP2.out _).mono ?_); rintro e w9 ⟨rfl,rfl⟩) | (go_at_call 18; (with_reducible refine (HP3.out _).mono ?_); rintro e w9 ⟨rfl,rfl⟩) | (go_at_call 18; (with_reducible refine (HP4.out _).mono ?_); rintro e w9 ⟨rfl,rfl⟩))
     rw [HW2.out]
     (with_reducible refine HC.out.mono ?_); rintro e w7 ⟨x,d,B,m,cp,a2,rfl,hx,hisx,ha2,hg7,hgr7⟩
     obtain ⟨hc7,hf7⟩:=HRes.out w7 (HGV.out.trans hgr7)
     have HX:=Lib.hid (And.intro hx (And.intro hisx (And.intro ha2 (And.intro hg7 hgr7))))
     clear hx hisx ha2 hg7 hgr7
     go_wp2_with fail
     refine bodyPost_ret (v:=.agg #[.int .i64 d.op,.int .i64 d.k,.int .i64 d.n,.string d.s,.string d.nm,.slice B m cp]) (by simp [results,Tryz.results38,go_sem,hc7]) rfl ?_
     rw [← HM.out,HDK.out]
     have hle:=HC3.out
     rw [HDK.out] at hle
     have hx2:a2<=a' + 2 * cost k:=HX.out.2.2.1
     exact fin_made gl (HGW.out.trans HGV.out) HX.out.2.2.2.2 (gn_made (by unfold OpT; right; right; right; exact ⟨h3,h4,rfl,rfl⟩) HX.out.1) HX.out.2.1 (by omega) HX.out.2.2.2.1 (by omega) (by simp; omega)
theorem expr_all:∀ k,k<=1000000->ExprAt k:=by
 intro k
 induction k with
 | zero => intro _ G n c a fc A FA fs kind w hg hr hf hfn hfs ha; exact expr_any 0 0 (.inl rfl) G n c a fc A FA fs kind w hg hr hf hfn hfs ha (by omega)
 | succ k ih => intro hk G n c a fc A FA fs kind w hg hr hf hfn hfs ha; exact expr_any k (k + 1) (.inr ⟨rfl,ih (by omega)⟩) G n c a fc A FA fs kind w hg hr hf hfn hfs ha (by omega)
end GenE
namespace GenT
open Go.RowKit
open ValM LexM NumM ExM Kit ExL ExP RawV Within RawL GenL Gen GenE
set_option linter.unusedVariables false
theorem leafD_ok {fs:List GenL.Fd} {kind:Int} {d:Nd} (hfs:∀ f ∈ fs,nmB f.nm.data.toList=true) (h:LeafD fs kind d):nodeE d 0=0:=by
 unfold nodeE
 rcases h with ⟨h1,h2,h3,h4,h5⟩ | ⟨h1,h2,h3,h4,f,hf,h6,h7⟩
 ·rw [if_neg (by omega),if_pos]
  refine ⟨by rw [h1]; rfl,?_,?_⟩
  ·unfold vOk
   rw [if_pos h1,h4]
   by_cases hk:d.k=1
   ·have:=h5 hk
    rw [decide_eq_false (show ¬ d.n < 0 by omega)]; simp
   ·rw [decide_eq_false hk]; simp
  ·unfold nmOk
   rw [if_neg (by omega),h2]; rfl
 ·rw [if_neg (by omega),if_pos]
  refine ⟨by rw [h1]; rfl,?_,?_⟩
  ·unfold vOk
   rw [if_neg (by omega),h2,h3,h4]; rfl
  ·unfold nmOk
   rw [if_pos h1,← h6]; exact hfs f hf
theorem opT_ok {op:Int} {ks:List Int} {kind:Int} (h:OpT op ks kind):nodeE ⟨op,0,0,⟨#[]⟩,⟨#[]⟩⟩ ks.length=0/\ks.length<=3:=by
 have hv:∀ o:Int,o ≠ 1->vOk ⟨o,0,0,⟨#[]⟩,⟨#[]⟩⟩=true:=fun o ho => by unfold vOk; rw [if_neg ho]; rfl
 have hn:∀ o:Int,o ≠ 2->nmOk ⟨o,0,0,⟨#[]⟩,⟨#[]⟩⟩=true:=fun o ho => by unfold nmOk; rw [if_neg ho]; rfl
 have key:∀ o:Int,3<=o->o<=18->∀ m,m=arity o->nodeE ⟨o,0,0,⟨#[]⟩,⟨#[]⟩⟩ m=0:=fun o h1 h2 m hm => by
  unfold nodeE
  rw [if_neg (show ¬ (o < 1 ∨ 18 < o) by omega),if_pos ⟨hm,hv o (by omega),hn o (by omega)⟩]
 have ar2:∀ o:Int,5<=o->o<=16->arity o=2:=fun o h1 h2 => by unfold arity; rw [if_neg (by omega),if_neg (by omega),if_neg (by omega)]
 rcases h with ⟨rfl,rfl⟩ | ⟨_,⟨rfl,rfl⟩ | ⟨rfl,rfl⟩ | ⟨h1,h2,rfl⟩⟩ | ⟨_,⟨rfl,rfl⟩ | ⟨h1,h2,rfl⟩ | ⟨j,_,_,h1,h2,rfl⟩⟩ | ⟨_,_,rfl,rfl⟩
 ·exact ⟨key 17 (by decide) (by decide) 3 rfl,by simp⟩
 ·exact ⟨key 3 (by decide) (by decide) 1 rfl,by simp⟩
 ·exact ⟨key 18 (by decide) (by decide) 1 rfl,by simp⟩
 ·exact ⟨key op (by omega) (by omega) 2 (ar2 op (by omega) (by omega)).symm,by simp⟩
 ·exact ⟨key 4 (by decide) (by decide) 1 rfl,by simp⟩
 ·exact ⟨key op (by omega) (by omega) 2 (ar2 op (by omega) (by omega)).symm,by simp⟩
 ·exact ⟨key op (by omega) (by omega) 2 (ar2 op (by omega) (by omega)).symm,by simp⟩
 ·exact ⟨key 10 (by decide) (by decide) 2 rfl,by simp⟩
def nb:Nat->Nat
 | 0 => 1
 | k + 1 => 1 + 3 * nb k
theorem nb_pos (k:Nat):1<=nb k:=by cases k <;> simp [nb]
theorem depthL_le {l:List Ex} {m:Nat} (h:∀ x ∈ l,x.depth<=m):depthL l<=m:=by
 induction l with
 | nil => simp [depthL_nil]
 | cons x l ih =>
  rw [depthL_cons]
  have h1:=h x (by simp)
  have h2:=ih fun y hy => h y (by simp [hy])
  omega
theorem nodesL_le {l:List Ex} {m:Nat} (h:∀ x ∈ l,x.nodes<=m):nodesL l<=l.length * m:=by
 induction l with
 | nil => simp [nodesL_nil]
 | cons x l ih =>
  rw [nodesL_cons,List.length_cons,Nat.add_mul,Nat.one_mul]
  have h1:=h x (by simp)
  have h2:=ih fun y hy => h y (by simp [hy])
  omega
theorem gn_ok {fs:List GenL.Fd} (hfs:∀ f ∈ fs,nmB f.nm.data.toList=true):∀ (k:Nat) (kind:Int) (x:Ex),Gn fs k kind x->x.okN/\x.depth<=k + 1/\x.nodes<=nb k:=by
 have leaf:∀ (k:Nat) (kind:Int) (x:Ex),(∃ d,x=.mk d []/\LeafD fs kind d)->x.okN/\x.depth<=k + 1/\x.nodes<=nb k:=fun k kind x ⟨d,hx,hl⟩ => by
  subst hx
  refine ⟨(okN_mk _ _).2 ⟨leafD_ok hfs hl,fun x hx => by simp at hx⟩,?_,?_⟩
  ·rw [depth_mk,depthL_nil]; omega
  ·rw [nodes_mk,nodesL_nil]; have:=nb_pos k; omega
 intro k
 induction k with
 | zero => intro kind x h; exact leaf 0 kind x h
 | succ k ih =>
  intro kind x h
  rcases h with h | ⟨op,ks,l,rfl,ho,hl,hg⟩
  ·exact leaf (k + 1) kind x h
  ·obtain ⟨o1,o2⟩:=opT_ok ho
   have hall:∀ y ∈ l,y.okN/\y.depth<=k + 1/\y.nodes<=nb k:=fun y hy => by
    obtain ⟨i,hi,rfl⟩:=List.mem_iff_getElem.1 hy
    exact ih _ _ (hg i hi (by omega))
   refine ⟨(okN_mk _ _).2 ⟨by rw [hl]; exact o1,fun y hy => (hall y hy).1⟩,?_,?_⟩
   ·rw [depth_mk]; have:=depthL_le fun y hy => (hall y hy).2.1; omega
   ·rw [nodes_mk]
    have h1:=nodesL_le fun y hy => (hall y hy).2.2
    have h2:l.length * nb k<=3 * nb k:=Nat.mul_le_mul_right _ (by omega)
    show _<=1 + 3 * nb k
    omega
theorem gn_check {fs:List GenL.Fd} (hfs:∀ f ∈ fs,nmB f.nm.data.toList=true) {kind:Int} {x:Ex} (h:Gn fs 3 kind x):x.checkE=0/\x.nodes<=40/\x.depth<=4/\x.okN:=by
 obtain ⟨h1,h2,h3⟩:=gn_ok hfs 3 kind x h
 have e:nb 3=40:=rfl
 rw [e] at h3
 exact ⟨by rw [checkE_ok (by omega) (by omega)]; exact h1,h3,h2,h1⟩
def ExprOut (fs:List GenL.Fd) (kind:Int) (w:World) (e:Ending) (w':World):Prop :=
 ∃ (x:Ex) (d:Nd) (B:Option Addr) (m cp:Nat),e=.returned (.agg #[.int .i64 d.op,.int .i64 d.k,.int .i64 d.n,.string d.s,.string d.nm,.slice B m cp])/\Gn fs 3 kind x/\IsP (fun b => w.heap.size<=b) w' x d B m/\Below w.heap.size w w'
set_option maxHeartbeats 1000000 in
theorem make_any (n c fc:Nat) (A FA:Option Addr) (fs:List GenL.Fd) (kind:Int) (w:World) (hr:Raws w A n c) (hf:Flds w FA fs) (hfn:fs.length<=1000000) (hfs:∀ f ∈ fs,f.nm.size<=maxLen) :
  Calls Tryz.prog 22 #[.slice A n c,.int .i64 kind,.slice FA fs.length fc] w (ExprOut fs kind w):=by
 have hE:=expr_all 3 (by decide)
 have hc:∀ o,Calls Tryz.prog 38 #[.pointer (some ⟨w.heap.size + 1,0,none⟩),.int .i64 kind,.slice FA fs.length fc,.int .i64 3] ((w.alloc o).alloc (.cells #[.slice A n c,.int .i64 0] 73)) (MadeOut (w.heap.size + 1) A n c (0 + cost 3) (Gn fs 3 kind) ((w.alloc o).alloc (.cells #[.slice A n c,.int .i64 0] 73))):=fun o => by
  have hb:Below w.heap.size w ((w.alloc o).alloc (.cells #[.slice A n c,.int .i64 0] 73)):=b_more (b_new _ _) _
  have hg:Gen ((w.alloc o).alloc (.cells #[.slice A n c,.int .i64 0] 73)) (w.heap.size + 1) A n c 0:=by
   have:=World.alloc_heap_new (w.alloc o) (.cells #[.slice A n c,.int .i64 0] 73)
   rw [World.size_alloc] at this; exact this
  exact hE (w.heap.size + 1) n c 0 fc A FA fs kind _ hg (hr.keep fun p v0 v1 v2 h0 h2 => hb.block _ (cell_lt' h0)) (hf.below hb) hfn hfs (by decide)
 have HC:=Lib.hid hc
 clear hc hE hr hf hfs
 go_enter Tryz.func22,Tryz.ntmps22
 go_wp2_with fail
 refine (HC.out _).mono ?_; rintro e w1 ⟨x,d,B,m,cp,a2,rfl,hx,hisx,ha2,hg7,hgr7⟩
 have hres:w1.heap[w.heap.size]?=some (.cells #[.int .i64 0,.int .i64 0,.int .i64 0,.string ⟨#[]⟩,.string ⟨#[]⟩,.slice none 0 0] 50 (0,0)) :=
  (hgr7.block _ (by simp; omega) (fun e => by injection e; omega)).trans (((b_new (w.alloc _) _).block _ (by simp)).trans (World.alloc_heap_new w _))
 have hc7:∀ o,w1.cell? ⟨w.heap.size,o,none⟩=(#[.int .i64 0,.int .i64 0,.int .i64 0,.string ⟨#[]⟩,.string ⟨#[]⟩,.slice none 0 0]:Array Value)[o]?:=fun o => by simp [World.cell?,hres]
 have hf7:∀ o,w1.frozen? ⟨w.heap.size,o,none⟩=false:=fun o => by simp [World.frozen?,hres]
 have hbw:Below w.heap.size w w1:=(b_more (b_new w _) _).trans ⟨hgr7.os,hgr7.tape,hgr7.output,hgr7.size,fun k hk => hgr7.block k (by simp; omega) (fun e => by injection e; omega)⟩
 have HX:=Lib.hid (And.intro hx (And.intro hisx hbw))
 clear hx hisx ha2 hg7 hgr7 hres hbw
 go_wp2_with fail
 refine bodyPost_ret (v:=.agg #[.int .i64 d.op,.int .i64 d.k,.int .i64 d.n,.string d.s,.string d.nm,.slice B m cp]) (by simp [results,Tryz.results22,go_sem,hc7]) rfl ?_
 refine ⟨x,d,B,m,cp,rfl,HX.out.1,IsP.keep (fun b hb hl => set6_heap (by simp at hb; omega) _ _ _ _ _ _) (fun b hb hl => by simp at hb; omega) _ _ _ _ HX.out.2.1,?_⟩
 have:=HX.out.2.2
 repeat' (first | (with_reducible exact this) | (with_reducible refine b_set ?_ ?_) | (dsimp only; omega))
end GenT
namespace RawO
open Go.ChangeShapes Go.WideShapes Go.ChangeAt Go.RowKit Go.Deep
open RawL
set_option linter.unusedVariables false
theorem len4 {α:Type} {l:List α} (h:l.length=4):∃ a b c d,l=[a,b,c,d]:=by
 match l,h with
 | [a,b,c,d],_ => exact ⟨a,b,c,d,rfl⟩
theorem row_raw {H:Type} {enc:TypeId × Value->H} {W:World} {fuel:Nat} {cs:List Value} {y:DataW H × List MemPlace}
  (h:DataW.trod enc Tryz.prog W 0 (fun _ => true) true fuel 75 cs=some y):∃ k x z t,cs=[.int .i64 k,.int .i64 x,.int .i64 z,.string t]/\(Lit.int .i64 k).wf=true/\(Lit.int .i64 x).wf=true/\(Lit.int .i64 z).wf=true/\t.size<=maxLen:=by
 obtain ⟨ys,f1,hfu,hx,hl,hlen,hf⟩:=DataW.trod_struct Tryz.underlying75 h
 have hC:Tryz.prog.cellsOf 75=4:=by kernel_rfl
 rw [hC] at hl
 obtain ⟨d0,d1,d2,d3,rfl⟩:=len4 hl
 obtain ⟨y0,y1,y2,y3,rfl⟩:=len4 (show ys.length=4 from hlen)
 have g0:=hf 0 _ rfl
 have g1:=hf 1 _ rfl
 have g2:=hf 2 _ rfl
 have g3:=hf 3 _ rfl
 have c0:Tryz.prog.cellsOf 3=1:=by kernel_rfl
 have c2:Tryz.prog.cellsOf 9=1:=by kernel_rfl
 simp [c0] at g0 g1 g2
 simp [c2] at g3
 obtain ⟨k,e0,_,w0⟩:=DataW.trod_int Tryz.underlying3 g0
 obtain ⟨x,e1,_,w1⟩:=DataW.trod_int Tryz.underlying3 g1
 obtain ⟨z,e2,_,w2⟩:=DataW.trod_int Tryz.underlying3 g2
 obtain ⟨t,e3,_,w3⟩:=DataW.trod_string Tryz.underlying9 g3
 simp only [List.cons.injEq,and_true] at e0 e1 e2 e3
 subst e0 e1 e2 e3
 exact ⟨k,x,z,t,rfl,w0,w1,w2,w3⟩
set_option maxRecDepth 100000 in
theorem open_raws {H:Type} {enc:TypeId × Value->H} {W:World} {base:Nat} {v:Value} {d:DataW H} {p:List MemPlace}
  (hv:Value.okWide Tryz.prog W .any base 34 v) (h:DataW.Trod enc Tryz.prog W 0 (fun _ => true) true 34 v d p) :
  ∃ A n c,v=.slice A n c/\Raws W A n c:=by
 obtain ⟨A,n,c,rfl⟩:=okWide_slice Tryz.underlying34 hv
 obtain ⟨fuel,hf⟩:=h
 have hC:Tryz.prog.cellsOf 75=4:=by kernel_rfl
 refine ⟨A,n,c,rfl,?_⟩
 rcases open_slice Tryz.underlying34 hf with ⟨e,_⟩ | ⟨a,len,cap,m,f,D,Pl,e,_,hl,hc,hm,_,hel⟩
 ·have e':[Value.slice A n c]=[.slice none 0 0]:=e
  injection e' with e1 _
  injection e1 with e1 e2 e3
  subst e1 e2 e3
  exact ⟨Nat.le_refl _,Nat.zero_le _,fun i hi => absurd hi (by omega)⟩
 ·have e':[Value.slice A n c]=[.slice (some a) len cap]:=e
  injection e' with e1 _
  injection e1 with e1 e2 e3
  subst e1 e2 e3
  refine ⟨hl,hc,fun i hi => ?_⟩
  have hmi:i < m:=by rw [hm]; split <;> omega
  obtain ⟨cs',hcs,htr⟩:=hel i hmi
  rw [hC] at hcs
  obtain ⟨_,hcl,hat⟩:=World.cells?_some hcs
  obtain ⟨k,x,z,t,rfl,w0,w1,w2,w3⟩:=row_raw htr
  have h0:=hat 0 (by decide); have h1:=hat 1 (by decide); have h2:=hat 2 (by decide); have h3:=hat 3 (by decide)
  have ad:∀ (p:Addr) (j:Nat),j ≠ 0->p.add j=⟨p.block,p.off + j,none⟩:=fun p j hj => by unfold Addr.add; rw [if_neg hj]
  rw [ad _ _ (by decide)] at h1 h2 h3
  rw [show ∀ p:Addr,p.add 0=p from fun p => by unfold Addr.add; rw [if_pos rfl]] at h0
  exact ⟨a,k,x,z,t,rfl,h0,h1,h2,h3,w0,w1,w2,w3⟩
end RawO
namespace NmG
open Go.RowKit
open ValM LexM NumM ExM NmM Kit ExL ExP ExV RawL GenL Gen GenT NmP
set_option linter.unusedVariables false
theorem gn_refs {fs:List GenL.Fd}:∀ (k:Nat) (kind:Int) (x:Ex),Gn fs k kind x->∀ s ∈ Ex.refs x,∃ f ∈ fs,f.nm=s:=by
 have leaf:∀ (kind:Int) (d:Nd),LeafD fs kind d->∀ s ∈ Ex.refs (.mk d []),∃ f ∈ fs,f.nm=s:=fun kind d hl s hs => by
  rcases hl with ⟨h1,_⟩ | ⟨h1,_,_,_,f,hf,h6,_⟩
  ·rw [refs_mk_neg d [] (by omega),refsL_nil] at hs; simp at hs
  ·rw [refs_mk_pos d [] h1,refsL_nil] at hs
   simp at hs; subst hs
   exact ⟨f,hf,h6⟩
 intro k
 induction k with
 | zero =>
  intro kind x h s hs
  obtain ⟨d,rfl,hl⟩:=h
  exact leaf kind d hl s hs
 | succ k ih =>
  intro kind x h s hs
  rcases h with ⟨d,rfl,hl⟩ | ⟨op,ks,l,rfl,hop,hlen,hl⟩
  ·exact leaf kind d hl s hs
  ·have hne:op ≠ 2:=by
    rcases hop with ⟨h,_⟩ | ⟨_,⟨h,_⟩ | ⟨h,_⟩ | ⟨h,_⟩⟩ | ⟨_,⟨h,_⟩ | ⟨h,_⟩ | ⟨j,_,_,h,_⟩⟩ | ⟨_,_,h,_⟩ <;> omega
   rw [refs_mk_neg _ l hne] at hs
   have:∀ (l:List Ex),(∀ x ∈ l,∀ s ∈ Ex.refs x,∃ f ∈ fs,f.nm=s)->∀ s ∈ refsL l,∃ f ∈ fs,f.nm=s:=by
    intro l
    induction l with
    | nil => intro _ s hs; rw [refsL_nil] at hs; simp at hs
    | cons y l ihl =>
     intro hl s hs
     rw [refsL_cons,List.mem_append] at hs
     rcases hs with hs | hs
     ·exact hl y (by simp) s hs
     ·exact ihl (fun z hz => hl z (by simp [hz])) s hs
   refine this l (fun x hx => ?_) s hs
   obtain ⟨i,hi,rfl⟩:=List.getElem_of_mem hx
   exact ih _ _ (hl i hi (by omega))
end NmG
namespace TyG
open Go.RowKit
open ValM LexM NumM ExM NmM Kit ExL ExP ExV RawL GenL Gen GenT NmP NmG TyM Ty
set_option linter.unusedVariables false
theorem errL_zero (ks:List Int):errL (ks.map fun k => (k,(0:Int)))=0:=by
 induction ks with
 | nil => rfl
 | cons k r ih => rw [List.map_cons,errL,if_pos rfl,ih]
theorem vK_id {kind:Int} (h1:1<=kind) (h3:kind<=3):RawV.vK kind=kind:=by
 unfold RawV.vK
 split
 ·omega
 ·split <;> omega
theorem opT_ty {op:Int} {ks:List Int} {kind:Int} (h1:1<=kind) (h3:kind<=3) (h:OpT op ks kind):applyR (ruleReq op) (ruleRes op) ks=(kind,0)/\(∀ k ∈ ks,1<=k/\k<=3)/\op ≠ 1/\op ≠ 2:=by
 have hk:kind=1 ∨ kind=2 ∨ kind=3:=by omega
 rcases h with ⟨rfl,rfl⟩ | ⟨rfl,⟨rfl,rfl⟩ | ⟨rfl,rfl⟩ | ⟨a,b,rfl⟩⟩ | ⟨rfl,⟨rfl,rfl⟩ | ⟨a,b,rfl⟩ | ⟨j,j1,j3,a,b,rfl⟩⟩ | ⟨k1,k2,rfl,rfl⟩
 ·rcases hk with rfl | rfl | rfl <;> exact ⟨by decide,by decide,by decide,by decide⟩
 ·exact ⟨by decide,by decide,by decide,by decide⟩
 ·exact ⟨by decide,by decide,by decide,by decide⟩
 ·have:op=5 ∨ op=6 ∨ op=7 ∨ op=8 ∨ op=9:=by omega
  rcases this with rfl | rfl | rfl | rfl | rfl <;> exact ⟨by decide,by decide,by decide,by decide⟩
 ·exact ⟨by decide,by decide,by decide,by decide⟩
 ·have:op=15 ∨ op=16:=by omega
  rcases this with rfl | rfl <;> exact ⟨by decide,by decide,by decide,by decide⟩
 ·have:op=11 ∨ op=12 ∨ op=13 ∨ op=14:=by omega
  have hj:j=1 ∨ j=2 ∨ j=3:=by omega
  rcases this with rfl | rfl | rfl | rfl <;> rcases hj with rfl | rfl | rfl <;> exact ⟨by decide,by decide,by decide,by decide⟩
 ·obtain rfl:kind=3:=by omega
  exact ⟨by decide,by decide,by decide,by decide⟩
end TyG
namespace FrmO
open Go.RowKit
open ValM LexM NumM ExM NmM Kit ExL ExP ExN ExC RawV Within RawL RawN GenL Gen GenT GenV FrmM Frm FldP FldR FldC FrmT TyM Ty TyG NmG
set_option linter.unusedVariables false
theorem gn_ty2 {fs:List GenL.Fd} {G:List (ByteArray × Int)} (hfs:∀ f ∈ fs,fieldT G f.nm=(f.ty,0)):∀ (k:Nat) (kind:Int) (x:Ex),1<=kind->kind<=3->Gn fs k kind x->Ex.ty G x=(kind,0):=by
 have leaf:∀ (kind:Int) (d:Nd),1<=kind->kind<=3->LeafD fs kind d->Ex.ty G (.mk d [])=(kind,0):=fun kind d h1 h3 hl => by
  rw [ty_mk,tyL_nil]
  unfold tyN
  rcases hl with ⟨g1,_,g3,_⟩ | ⟨g1,_,_,_,f,hf,g5,g6⟩
  ·rw [if_pos g1,g3,vK_id h1 h3]
  ·rw [if_neg (by omega),if_pos g1,← g5,hfs f hf,g6]
 intro k
 induction k with
 | zero =>
  intro kind x h1 h3 h
  obtain ⟨d,rfl,hl⟩:=h
  exact leaf kind d h1 h3 hl
 | succ k ih =>
  intro kind x h1 h3 h
  rcases h with ⟨d,rfl,hl⟩ | ⟨op,ks,l,rfl,hop,hlen,hl⟩
  ·exact leaf kind d h1 h3 hl
  ·obtain ⟨e1,e2,e3,e4⟩:=opT_ty h1 h3 hop
   have hty:tyL G l=ks.map fun k => (k,(0:Int)):=by
    rw [tyL_map]
    refine List.ext_getElem (by rw [List.length_map,List.length_map,hlen]) fun i hi hj => ?_
    rw [List.length_map] at hi hj
    rw [List.getElem_map,List.getElem_map]
    have hb:=e2 ks[i] (List.getElem_mem hj)
    exact ih _ _ hb.1 hb.2 (hl i hi hj)
   rw [ty_mk,hty]
   unfold tyN
   rw [if_neg e3,if_neg e4,if_pos (errL_zero ks),List.map_map]
   have:(List.map ((fun p:Int × Int => p.1) ∘ fun k => (k,(0:Int))) ks)=ks:=by
    rw [show ((fun p:Int × Int => p.1) ∘ fun k:Int => (k,(0:Int)))=id from rfl,List.map_id]
   rw [this]; exact e1

def xOf (es:List FE) (k:Nat):Ex:=(es[k]?.map FE.x).getD zeroX
theorem xOf_at (es:List FE) (k:Nat) (h:k < es.length):xOf es k=es[k].x:=by unfold xOf; rw [List.getElem?_eq_getElem h]; rfl
end FrmO
namespace TxK
open Go.RowKit
open ValM LexM NumM ExM NmM ShowM PrM Ty Kit ExL ExP ExN ExC RawV Within RawL RawN GenL Gen GenT GenV FrmM Frm FldP FldR FldC FrmT FrmO TyM PgM PgA PgF RkM RkA RkD RkO RkS RkK CycO RkY ShT ShE TxM TxR TxP TxT TxQ TxN TxF TxG TxD TxU KpS PsE PrU
set_option linter.unusedVariables false
theorem needs_same {es es':List FE} {X X':Nat->Ex} (h:es.map flE=es'.map flE) (hX:Srcs X es) (hX':Srcs X' es'):needsF (es.map FE.fd) X=needsF (es'.map FE.fd) X':=by
 have hl:=len_same h
 unfold needsF
 rw [List.length_map,List.length_map,← hl]
 refine List.map_congr_left fun k hk => ?_
 have hk:=List.mem_range.1 hk
 unfold needF
 rw [dif_pos (by rw [List.length_map]; exact hk),dif_pos (by rw [List.length_map]; omega),List.getElem_map,List.getElem_map,hX k hk,hX' k (by omega)]
 obtain ⟨a,b,c,d⟩:=fl_same (at_fl h k hk (by omega))
 have hpl:plN (es.map FE.fd)=plN (es'.map FE.fd):=by
  funext s
  unfold plN
  rw [at_same h s,List.length_map,List.length_map,hl]
 rw [hpl,d]
 show (if es[k].kind=1 then _ else _)=if es'[k].kind=1 then _ else _
 rw [b]
theorem rank_same {es es':List FE} {X X':Nat->Ex} {w w':World} (h:es.map flE=es'.map flE) (hi:FIs w es) (hi':FIs w' es') (hX:Srcs X es) (hX':Srcs X' es'):rankE (es.map FE.fd) X=rankE (es'.map FE.fd) X':=by
 unfold rankE
 rw [check_same h hi hi' hX hX',needs_same h hX hX',List.length_map,List.length_map,len_same h]
theorem srcs_xOf (es:List FE):Srcs (xOf es) es:=fun i h => xOf_at es i h
end TxK
end Go.Proofs.YtdefaeieiaegaaaGreatDoor
