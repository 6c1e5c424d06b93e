/- KpSame TxKeep: what these laws name of them. -/
import Derived.RegionTactic
import Derived.BigQuiet
import Derived.Deep.QuietTactic
import Derived.Deep.RegionHeld3
import Derived.Deep.RegionLaw
import Derived.RangeFuncBox
import Derived.Deep.AppendLies
import Derived.OwnWalk
import Derived.Deep.RegionWith
import Derived.BigRegion
import Derived.Laws.OwnMore
import Derived.Laws.Pointers
import Derived.Test.YtdefaeieiaegaaaGreatDoorChecked
import Derived.WalkKit
import Derived.ProofKit
import Derived.Lib.ConvBytes
import Derived.Lib.AtoiErrMem
import Derived.Laws.IdiomStrings
import Derived.WalkSpells
import Derived.WalkLawsBesides
import Derived.Outline
import Derived.Lib.Hide
import Derived.Deep.LoopGhost
import Derived.Below
import Derived.Deep.Draws
import GoSem.Claim
import Derived.Lib.Bytealg
import Derived.Lib.Small
import Derived.Lib.AtoiAll
import Derived.Test.YtdefaeieiaegaaaGreatDoorProg
import Derived.IntWalk
import Derived.ChangeAlike
import Derived.WalkSmall
import Derived.RangeFuncNested
import Derived.RangeFuncBound
import Derived.RangeFuncCalls
import Derived.RangeFuncLeaves
import Derived.Shelf.Abstract
import Derived.Shelf.RegionOpen
import Derived.OwnWalkIn
import Derived.TacticsInMore
import Derived.LoopNIn
import Derived.LoopIn
import Derived.ChangeOld
import Derived.Deep.DrawnRows
import Derived.LaidMore
import Derived.LaidLaws
import Derived.ChangeArms
import Derived.Lib.LaidTab
import Derived.WideShapes
import Derived.Deep.DeepCutAuto
import Derived.Deep.CutBlock
import Derived.Maps.Own
import Derived.Maps.OwnSet
import Derived.Maps.AppendAt
import Derived.Maps.Range
import Derived.Maps.RangeWalk
import Derived.Laws.AppendOwnNone
import Derived.Sort.EncStr
import Derived.StringKeys
import Derived.Laws.CopyOwn
import Derived.RangeFuncRecord
import Derived.Shelf.Strings.Builder1
import Derived.Shelf.Strings.Builder2
import Derived.Shelf.Strings.OnBuilder
import Derived.Shelf.Small.Bits
import Derived.Shelf.Small.Wraps
import Derived.Shelf.Strings.BuilderF
import Derived.Shelf.Strings.BuilderK
import Derived.Shelf.Strconv.Atoi
import Derived.Shelf.Strconv.Itoa0
import Derived.Shelf.Strconv.Itoa1
import Derived.Shelf.LaysM
import Derived.Shelf.Strconv.Itoa2
import Derived.Shelf.Strconv.Itoa3
import Derived.Shelf.Strconv.AtoiErrFast
import Derived.Shelf.Strconv.ParseIntEmpty
import Derived.Shelf.Strconv.AtoiFail
import Derived.Shelf.Strconv.Clone
import Derived.Shelf.Strconv.SyntaxError
import Derived.Shelf.LaysC
import Derived.Shelf.Strconv.ToError
import Derived.Shelf.Strconv.Lower
import Derived.Shelf.Strconv.ParseUint10
import Derived.Shelf.Strconv.ParseUint10Empty
import Derived.Shelf.Strconv.ParseUint10Any
import Derived.Shelf.Strconv.ParseInt10
import Derived.Shelf.Strconv.AtoiLong
import Derived.Shelf.Strconv.AtoiInnerAll
import Derived.Shelf.Strconv.RangeError
import Derived.Shelf.Strconv.ToErrorRange
import Derived.Shelf.Strconv.AtoiAll
import Derived.Shelf.Strconv.ErrVarAll
import Derived.Shelf.Strings.Search1
import Derived.Shelf.Strings.Search2
import Derived.Shelf.Strings.Search3
import Derived.Shelf.Strings.Cut
import Derived.Shelf.Strings.Count
import Derived.Shelf.Strings.Shaped
import Derived.Shelf.Strings.Prefix
import Derived.Shelf.Strings.Split
import Derived.Shelf.Bits.Mul64
import Derived.Shelf.Unicode.DecodeSlow
import Derived.Shelf.Slices.Turned
import Derived.Shelf.Slices.Equal
import Derived.Ground.Names2Prog
import Derived.Shelf.Slices.Clone
import Derived.Shelf.Slices.Empties2
import Derived.Ground.SlgfProg
import Derived.Shelf.SlicesE.IndexFunc
import Derived.Ground.SlgmProg
import Derived.Shelf.SortM.Plain
import Derived.Shelf.SortM.SortNone
import Derived.Calls
import Derived.Orders
import Derived.OrdersHeld
import Derived.RangeFuncWrites
import Derived.Maps.OwnIn
import Derived.Shelf.SlIter.Nil
import Derived.Ground.GgzProg
import Derived.Lib.UnsafeStr
import Derived.Lib.ItoaNum
import Derived.Lib.AtoiTie
import Derived.Lib.ItoaMem
import Derived.Lib.AppendIntMem
import Derived.Lib.ItoaLen
import Derived.Lib.IndexMore
import Derived.Lib.Split
import Derived.Lib.Strings
import Derived.Lib.ReplaceLaws
import Derived.Lib.CountLaws
import Derived.Lib.SplitLaws
import Derived.Laws.Tables
import Derived.Laws.Rows
import Derived.Tactics
import Derived.Tactics2
import Derived.Defers
import Derived.Recover
import Derived.RegionDies
import Derived.Deep.MidRow
import Derived.Deep.Slices
import Derived.OpenShut
import Derived.ChangeSame
import Derived.DataReads
import Derived.Test.YtdefaeieiaegaaaGreatDoorKtT01
import Derived.Test.YtdefaeieiaegaaaGreatDoorKtT05
import Derived.Test.YtdefaeieiaegaaaGreatDoorKtT10
import Derived.Test.YtdefaeieiaegaaaGreatDoorKtT13
import Derived.Test.YtdefaeieiaegaaaGreatDoorKtT14
import Derived.Test.YtdefaeieiaegaaaGreatDoorKtT20
import Derived.Test.YtdefaeieiaegaaaGreatDoorKtT24
namespace Go.Proofs.YtdefaeieiaegaaaGreatDoor
set_option linter.unusedVariables false
namespace KpS
open Go.RowKit
open ValM LexM NumM ExM Kit ExL ExS RawV Within RawL GenL FldP FrmM PgM NmA ShT
set_option linter.unusedVariables false
def Twin (w:World) (f g:GenL.Fd) (x:Ex):Prop:=f.nm=g.nm/\f.kind=g.kind/\f.ty=g.ty/\Is w x f.d f.A f.n/\Is w x g.d g.A g.n
theorem Twin.below {w w':World} {f g:GenL.Fd} {x:Ex} (h:Twin w f g x) (hb:Below w.heap.size w w'):Twin w' f g x:=⟨h.1,h.2.1,h.2.2.1,h.2.2.2.1.below hb,h.2.2.2.2.below hb⟩
set_option maxRecDepth 100000 in
set_option maxHeartbeats 4000000 in
theorem sameF1_any (f g:GenL.Fd) (x:Ex) (w:World) (h:Twin w f g x) :
  Calls Tryz.prog 43 #[.agg #[.string f.nm,.int .i64 f.kind,.int .i64 f.ty,.int .i64 f.d.op,.int .i64 f.d.k,.int .i64 f.d.n,.string f.d.s,.string f.d.nm,.slice f.A f.n f.c],.agg #[.string g.nm,.int .i64 g.kind,.int .i64 g.ty,.int .i64 g.d.op,.int .i64 g.d.k,.int .i64 g.d.n,.string g.d.s,.string g.d.nm,.slice g.A g.n g.c]] w fun e w' => e=.returned (.bool true)/\Below w.heap.size w w':=by
 obtain ⟨fn,fk,ft,fd,fA,fm,fc⟩:=f
 obtain ⟨gn,gk,gt,gd,gA,gm,gc⟩:=g
 obtain ⟨h1,h2,h3,h4,h5⟩:=h
 simp only at h1 h2 h3 h4 h5
 obtain rfl:fd=gd:=(is_d h4).trans (is_d h5).symm
 subst h1 h2 h3
 have hc:=fun V (hb:Below w.heap.size w V) => keepSame_any x fd fA gA fm gm fc gc V (h4.below hb) (h5.below hb)
 have HC:=Lib.hid hc
 have t0:(fn.toList == fn.toList)=true:=by simp
 have t1:(fk == fk)=true:=by simp
 have t2:(ft == ft)=true:=by simp
 clear hc h4 h5
 go_enter Tryz.func43,Tryz.ntmps43
 go_wp2_with fail
 refine (HC.out _ (b_more (b_new w _) _)).mono ?_; rintro e w1 ⟨rfl,hb1⟩
 have HB1:=Lib.hid hb1
 clear hb1
 go_wp2_with fail
 go_ret
 exact ⟨rfl,b_then (b_then HB1.out)⟩
set_option maxRecDepth 100000 in
set_option maxHeartbeats 4000000 in
theorem eqF_any (F G:List GenL.Fd) (X:Nat->Ex) (A A':Option Addr) (c c':Nat) (w:World) (hl:F.length=G.length) (hn:F.length<=maxLen) (h1:Flds w A F) (h2:Flds w A' G) (ht:∀ (k:Nat) (h:k < F.length) (h2:k < G.length),Twin w F[k] G[k] (X k)) :
  Calls Tryz.prog 42 #[.slice A F.length c,.slice A' F.length c',.func (.func 43) #[] #[]] w fun e w' => e=.returned (.bool true)/\Below w.heap.size w w':=by
 have HT:=Lib.hid ht
 have H1:=Lib.hid h1
 have H2:=Lib.hid h2
 have HL:=Lib.hid hl
 clear ht h1 h2 hl
 unfold maxLen at hn
 go_enter Tryz.func42,Tryz.ntmps42
 go_wp2_with fail
 go_loopw [7,8,9,17] (fun _ _ _ i wr => ∃ k:Nat,k<=F.length/\i=.int .i64 k/\Below w.heap.size w wr) (fun _ _ _ i _ => F.length - (intOf i).toNat)
 case atStart => exact ⟨0,by omega,rfl,Below.refl _ _⟩
 case round =>
  obtain ⟨k,hk,rfl,hbw⟩:=hrel
  by_cases hlt:k < F.length
  ·obtain ⟨a,rfl,hat⟩:=H1.out.below hbw k hlt
   have hlt2:k < G.length:=by have:=HL.out; omega
   obtain ⟨a',rfl,hat'⟩:=H2.out.below hbw k hlt2
   have htw:=(HT.out k hlt hlt2).below hbw
   obtain ⟨f,hf⟩:∃ f,F[k]=f:=⟨_,rfl⟩
   obtain ⟨g,hg⟩:∃ g,G[k]=g:=⟨_,rfl⟩
   rw [hf] at hat htw
   rw [hg] at hat' htw
   obtain ⟨q0,q1,q2,q3,q4,q5,q6,q7,q8⟩:=hat
   obtain ⟨p0,p1,p2,p3,p4,p5,p6,p7,p8⟩:=hat'
   have hl0:=cell_lt' q0
   have hl1:=cell_lt' p0
   have hc:=fun V (hb:Below wr.heap.size wr V) => sameF1_any f g (X k) V (htw.below hb)
   have HC:=Lib.hid hc
   have HBW:=Lib.hid hbw
   clear hc hbw htw hf hg hlt2
   go_wp2_with fail
   refine (HC.out _ (b_more (b_new wr _) _)).mono ?_; rintro e w1 ⟨rfl,hb1⟩
   have hb2:Below w.heap.size w w1:=HBW.out.trans ((b_then (b_then hb1)).mono HBW.out.size)
   have HB2:=Lib.hid hb2
   clear hb1 hb2 q0 q1 q2 q3 q4 q5 q6 q7 q8 p0 p1 p2 p3 p4 p5 p6 p7 p8
   go_wp2_with fail
   go_roundw
   case rel => exact ⟨k + 1,by omega,by go_num,HB2.out⟩
   case measure => simp [intOf]; omega
  ·go_wp2_with fail
   go_ret
   exact ⟨rfl,hbw⟩
structure TwinT (w:World) (f g:PE):Prop where
 nm:f.nm=g.nm
 fs:f.fs=g.fs
 x:f.x=g.x
 rf:TRow w f.F f.fs
 rg:TRow w g.F g.fs
 len:f.fs.length<=1048576
 sf:Is w f.x f.x.d f.B f.m
 sg:Is w g.x g.x.d g.B g.m
theorem TwinT.below {w w':World} {f g:PE} (h:TwinT w f g) (hb:Below w.heap.size w w'):TwinT w' f g:=⟨h.nm,h.fs,h.x,h.rf.below hb,h.rg.below hb,h.len,h.sf.below hb,h.sg.below hb⟩
theorem trow_cells {w:World} {A:Option Addr} {L:List ByteArray} (h:TRow w A L) (h0:0 < L.length):∃ b o,A=some ⟨b,o,none⟩/\∀ j,j < L.length->w.cell? ⟨b,o + j,none⟩=some (.string (L.getD j ByteArray.empty)):=by
 obtain ⟨a,rfl,hc0⟩:=h 0 h0
 have hsp:a.spot=none:=by
  unfold Addr.add at hc0
  rw [if_pos rfl] at hc0
  unfold World.cell? at hc0
  split at hc0
  ·split at hc0
   ·cases hc0
   ·rename_i hs; simpa using hs
  ·cases hc0
 obtain ⟨b,o,sp⟩:=a
 simp only at hsp
 subst hsp
 refine ⟨b,o,rfl,fun j hj => ?_⟩
 obtain ⟨a,e,hc⟩:=h j hj
 injection e with e
 subst e
 rw [List.getD_eq_getElem?_getD,List.getElem?_eq_getElem hj]
 unfold Addr.add at hc
 by_cases hz:j=0
 ·subst hz; rw [if_pos rfl] at hc; exact hc
 ·rw [if_neg hz] at hc; exact hc
theorem equalT_any (w:World) (L:List ByteArray) (A1 A2:Option Addr) (c1 c2:Nat) (hl:L.length<=1048576) (h1:TRow w A1 L) (h2:TRow w A2 L):Calls Tryz.prog 46 #[.slice A1 L.length c1,.slice A2 L.length c2] w fun e w' => e=.returned (.bool true)/\Below w.heap.size w w':=by
 rcases Nat.eq_zero_or_pos L.length with h0 | h0
 ·rw [h0]
  refine (Tryz.slices_Equal_string_empty A1 A2 c1 0 c2 w (by omega)).mono fun e w' h => ?_
  obtain ⟨rfl,rfl⟩:=h
  exact ⟨rfl,Below.refl _ _⟩
 ·obtain ⟨b1,o1,rfl,k1⟩:=trow_cells h1 h0
  obtain ⟨b2,o2,rfl,k2⟩:=trow_cells h2 h0
  refine (Tryz.slices_Equal_string b1 o1 L.length c1 b2 o2 L.length c2 L L w (Nat.le_refl _) (Nat.le_refl _) (by omega) (by omega) k1 k2).mono fun e w' h => ?_
  obtain ⟨rfl,q,rfl⟩:=h
  exact ⟨by rw [decide_eq_true rfl],b_drewN (Below.refl _ _) q⟩
set_option maxRecDepth 100000 in
set_option maxHeartbeats 4000000 in
theorem sameP1_any (f g:PE) (w:World) (h:TwinT w f g) :
  Calls Tryz.prog 45 #[.agg #[.string f.nm,.slice f.F f.fs.length f.fc,.int .i64 f.x.d.op,.int .i64 f.x.d.k,.int .i64 f.x.d.n,.string f.x.d.s,.string f.x.d.nm,.slice f.B f.m f.c],.agg #[.string g.nm,.slice g.F g.fs.length g.fc,.int .i64 g.x.d.op,.int .i64 g.x.d.k,.int .i64 g.x.d.n,.string g.x.d.s,.string g.x.d.nm,.slice g.B g.m g.c]] w fun e w' => e=.returned (.bool true)/\Below w.heap.size w w':=by
 obtain ⟨fn,fL,fF,fq,fx,fB,fm,fc⟩:=f
 obtain ⟨gn,gL,gF,gq,gx,gB,gm,gc⟩:=g
 obtain ⟨h1,h2,h3,h4,h5,h6,h7,h8⟩:=h
 simp only at h1 h2 h3 h4 h5 h6 h7 h8
 subst h1 h2 h3
 have hc:=fun V (hb:Below w.heap.size w V) => keepSame_any fx fx.d fB gB fm gm fc gc V (h7.below hb) (h8.below hb)
 have he:∀ V,Below w.heap.size w V->Calls Tryz.prog 46 #[.slice fF fL.length fq,.slice gF fL.length gq] V fun e w' => e=.returned (.bool true)/\Below V.heap.size V w':=fun V hb => equalT_any V fL fF gF fq gq h6 (h4.below hb) (h5.below hb)
 have HC:=Lib.hid hc
 have HE:=Lib.hid he
 have t0:(fn.toList == fn.toList)=true:=by simp
 dsimp only
 clear hc he h4 h5 h7 h8 h6
 go_enter Tryz.func45,Tryz.ntmps45
 go_wp2_with fail
 refine (HE.out _ (b_more (b_new w _) _)).mono ?_; rintro e w1 ⟨rfl,hb1⟩
 have hb1':Below w.heap.size w w1:=b_then (b_then hb1)
 have HB1':=Lib.hid hb1'
 obtain ⟨_,_,k2,k3,k4,k5,k6,k7⟩:=pg_cells w ⟨fn,fL,fF,fq,fx,fB,fm,fc⟩ w1 (b_then hb1)
 obtain ⟨_,_,j2,j3,j4,j5,j6,j7⟩:=pg_cells (w.alloc (pgBox ⟨fn,fL,fF,fq,fx,fB,fm,fc⟩)) ⟨fn,fL,gF,gq,fx,gB,gm,gc⟩ w1 hb1
 simp only [World.size_alloc] at k2 k3 k4 k5 k6 k7 j2 j3 j4 j5 j6 j7
 clear hb1 hb1'
 go_wp2_with fail
 refine (HC.out _ HB1'.out).mono ?_; rintro e w2 ⟨rfl,hb2⟩
 have HB2:=Lib.hid hb2
 clear hb2
 go_wp2_with fail
 go_ret
 exact ⟨rfl,b_trans HB1'.out HB2.out⟩
set_option maxRecDepth 100000 in
set_option maxHeartbeats 4000000 in
theorem eqP_any (F G:List PE) (A A':Option Addr) (c c':Nat) (w:World) (hl:F.length=G.length) (hn:F.length<=maxLen) (h1:Pgs w A F) (h2:Pgs w A' G) (ht:∀ (k:Nat) (h:k < F.length) (h2:k < G.length),TwinT w F[k] G[k]) :
  Calls Tryz.prog 44 #[.slice A F.length c,.slice A' F.length c',.func (.func 45) #[] #[]] w fun e w' => e=.returned (.bool true)/\Below w.heap.size w w':=by
 have HT:=Lib.hid ht
 have H1:=Lib.hid h1
 have H2:=Lib.hid h2
 have HL:=Lib.hid hl
 clear ht h1 h2 hl
 unfold maxLen at hn
 go_enter Tryz.func44,Tryz.ntmps44
 go_wp2_with fail
 go_loopw [7,8,9,17] (fun _ _ _ i wr => ∃ k:Nat,k<=F.length/\i=.int .i64 k/\Below w.heap.size w wr) (fun _ _ _ i _ => F.length - (intOf i).toNat)
 case atStart => exact ⟨0,by omega,rfl,Below.refl _ _⟩
 case round =>
  obtain ⟨k,hk,rfl,hbw⟩:=hrel
  by_cases hlt:k < F.length
  ·obtain ⟨a,rfl,hat⟩:=H1.out.below hbw k hlt
   have hlt2:k < G.length:=by have:=HL.out; omega
   obtain ⟨a',rfl,hat'⟩:=H2.out.below hbw k hlt2
   have htw:=(HT.out k hlt hlt2).below hbw
   obtain ⟨f,hf⟩:∃ f,F[k]=f:=⟨_,rfl⟩
   obtain ⟨g,hg⟩:∃ g,G[k]=g:=⟨_,rfl⟩
   rw [hf] at hat htw
   rw [hg] at hat' htw
   obtain ⟨q0,q1,q2,q3,q4,q5,q6,q7⟩:=hat
   obtain ⟨p0,p1,p2,p3,p4,p5,p6,p7⟩:=hat'
   have hl0:=cell_lt' q0
   have hl1:=cell_lt' p0
   have hc:=fun V (hb:Below wr.heap.size wr V) => sameP1_any f g V (htw.below hb)
   have HC:=Lib.hid hc
   have HBW:=Lib.hid hbw
   clear hc hbw htw hf hg hlt2
   go_wp2_with fail
   refine (HC.out _ (b_more (b_new wr _) _)).mono ?_; rintro e w1 ⟨rfl,hb1⟩
   have hb2:Below w.heap.size w w1:=HBW.out.trans ((b_then (b_then hb1)).mono HBW.out.size)
   have HB2:=Lib.hid hb2
   clear hb1 hb2 q0 q1 q2 q3 q4 q5 q6 q7 p0 p1 p2 p3 p4 p5 p6 p7
   go_wp2_with fail
   go_roundw
   case rel => exact ⟨k + 1,by omega,by go_num,HB2.out⟩
   case measure => simp [intOf]; omega
  ·go_wp2_with fail
   go_ret
   exact ⟨rfl,hbw⟩
set_option maxRecDepth 100000 in
set_option maxHeartbeats 4000000 in
theorem sameForm_any (F G:List GenL.Fd) (X:Nat->Ex) (P Q:List PE) (FA GA PA QA:Option Addr) (fc gc pc qc:Nat) (w:World) (hl:F.length=G.length) (hn:F.length<=maxLen) (h1:Flds w FA F) (h2:Flds w GA G) (ht:∀ (k:Nat) (h:k < F.length) (h2:k < G.length),Twin w F[k] G[k] (X k))
  (hpl:P.length=Q.length) (hpn:P.length<=maxLen) (hp1:Pgs w PA P) (hp2:Pgs w QA Q) (hpt:∀ (k:Nat) (h:k < P.length) (h2:k < Q.length),TwinT w P[k] Q[k]) :
  Calls Tryz.prog 17 #[.agg #[.slice FA F.length fc,.slice PA P.length pc],.agg #[.slice GA F.length gc,.slice QA P.length qc]] w fun e w' => e=.returned (.bool true)/\Below w.heap.size w w':=by
 obtain ⟨W1,hW1⟩:∃ V,(w.alloc (frBox FA F.length fc PA P.length pc)).alloc (frBox GA F.length gc QA P.length qc)=V:=⟨_,rfl⟩
 have hb1:Below w.heap.size w W1:=by rw [← hW1]; exact b_more (b_new w _) _
 have hcl:∀ V,Below W1.heap.size W1 V->(V.cell? ⟨w.heap.size,0,none⟩=some (.slice FA F.length fc)/\V.cell? ⟨w.heap.size,1,none⟩=some (.slice PA P.length pc))/\V.cell? ⟨w.heap.size + 1,0,none⟩=some (.slice GA F.length gc)/\V.cell? ⟨w.heap.size + 1,1,none⟩=some (.slice QA P.length qc):=fun V hV => by
  rw [← hW1] at hV
  refine ⟨fr_cells w FA F.length fc PA P.length pc V ((b_new (w.alloc (frBox FA F.length fc PA P.length pc)) _).trans (hV.mono (by simp))),?_⟩
  have:=fr_cells (w.alloc (frBox FA F.length fc PA P.length pc)) GA F.length gc QA P.length qc V hV
  simpa using this
 obtain ⟨B,hB⟩:∃ B,w.heap.size=B:=⟨_,rfl⟩
 have hf:=fun V (hV:Below w.heap.size w V) => eqF_any F G X FA GA fc gc V hl hn (h1.below hV) (h2.below hV) (fun k a b => (ht k a b).below hV)
 have hp:=fun V (hV:Below w.heap.size w V) => eqP_any P Q PA QA pc qc V hpl hpn (hp1.below hV) (hp2.below hV) (fun k a b => (hpt k a b).below hV)
 rw [hB] at hcl
 obtain ⟨⟨x0,x1⟩,y0,y1⟩:=hcl W1 (Below.refl _ _)
 have HF:=Lib.hid hf
 have HP:=Lib.hid hp
 have HCl:=Lib.hid hcl
 have HW1:=Lib.hid hW1
 have HB:=Lib.hid hB
 have HB1:=Lib.hid hb1
 clear hf hp hcl hW1 hB hb1 h1 h2 ht hp1 hp2 hpt hl hpl
 unfold frBox at HW1
 go_enter Tryz.func17,Tryz.ntmps17
 go_upto_region 1 with fail
 rw [HW1.out,HB.out]
 go_wp2_with fail
 refine (HF.out _ HB1.out).mono ?_; rintro e w2 ⟨rfl,hb2⟩
 obtain ⟨⟨x0,x1⟩,y0,y1⟩:=HCl.out w2 hb2
 have HB2:=Lib.hid (b_trans HB1.out hb2)
 clear hb2
 go_wp2_with fail
 refine (HP.out _ HB2.out).mono ?_; rintro e w3 ⟨rfl,hb3⟩
 have HB3:=Lib.hid (b_trans HB2.out hb3)
 clear hb3
 go_wp2_with fail
 go_ret
 exact ⟨rfl,HB3.out⟩
end KpS
namespace TxK
open Go.RowKit
open ValM LexM NumM ExM NmM ShowM PrM Ty Kit ExL ExP ExN ExC RawV Within RawL RawN GenL Gen GenT GenV FrmM Frm FldP FldR FldC FrmT FrmO TyM PgM PgA PgF RkM RkA RkD RkO RkS RkK CycO RkY ShT ShE TxM TxR TxP TxT TxQ TxN TxF TxG TxD TxU KpS PsE PrU
set_option linter.unusedVariables false
theorem needs_same {es es':List FE} {X X':Nat->Ex} (h:es.map flE=es'.map flE) (hX:Srcs X es) (hX':Srcs X' es'):needsF (es.map FE.fd) X=needsF (es'.map FE.fd) X':=by
 have hl:=len_same h
 unfold needsF
 rw [List.length_map,List.length_map,← hl]
 refine List.map_congr_left fun k hk => ?_
 have hk:=List.mem_range.1 hk
 unfold needF
 rw [dif_pos (by rw [List.length_map]; exact hk),dif_pos (by rw [List.length_map]; omega),List.getElem_map,List.getElem_map,hX k hk,hX' k (by omega)]
 obtain ⟨a,b,c,d⟩:=fl_same (at_fl h k hk (by omega))
 have hpl:plN (es.map FE.fd)=plN (es'.map FE.fd):=by
  funext s
  unfold plN
  rw [at_same h s,List.length_map,List.length_map,hl]
 rw [hpl,d]
 show (if es[k].kind=1 then _ else _)=if es'[k].kind=1 then _ else _
 rw [b]
theorem rank_same {es es':List FE} {X X':Nat->Ex} {w w':World} (h:es.map flE=es'.map flE) (hi:FIs w es) (hi':FIs w' es') (hX:Srcs X es) (hX':Srcs X' es'):rankE (es.map FE.fd) X=rankE (es'.map FE.fd) X':=by
 unfold rankE
 rw [check_same h hi hi' hX hX',needs_same h hX hX',List.length_map,List.length_map,len_same h]
theorem srcs_xOf (es:List FE):Srcs (xOf es) es:=fun i h => xOf_at es i h
theorem gen_ok {rs:List Rw} {es:List FE} {ps:List PE} {P Q:Nat->Prop} {w:World} {FA PA:Option Addr} (hv:es.map FE.v=formF rs) (hr:FRow P w FA es) (hpv:ps.map PE.v=formP rs) (hpr:PRow Q w PA ps) :
  FormOk w es ps (xOf es)/\rankE (es.map FE.fd) (xOf es)=0/\es.length<=10/\ps.length<=4:=by
 obtain ⟨hpl,hgood,hgn,hsz⟩:=form_pages hv hr hpv hpr
 have hB:=form_base hv hr
 have hl:(es.map FE.fd).length=es.length:=List.length_map _
 have h10:=hB.ten
 rw [hl] at h10
 refine ⟨⟨fun i hi => ?_,fun i hi => ?_,srcs_xOf es,hB.check,check_good hgood hgn⟩,?_,h10,hpl.2⟩
 ·obtain ⟨g,_,_,_,his⟩:=hr i hi
  exact his.is
 ·obtain ⟨g,_,_,_,his⟩:=hpr i hi
  exact his.skip.is
 ·unfold rankE
  rw [if_pos hB.check,if_pos]
  intro i hi
  have:=(rankF_ok (ns:=needsF (es.map FE.fd) (xOf es)) (m:=plc rs) (fun k hk j hj => by
   rw [needsF_len] at hk ⊢
   exact hB.needs k hk j hj) _ i (Nat.le_refl _) (by rw [needsF_len]; exact hi)).1
  intro e
  have e:rk (rankF (needsF (es.map FE.fd) (xOf es))) i=-1:=e
  have this:0<=rk (rankF (needsF (es.map FE.fd) (xOf es))) i:=this
  omega
theorem small_ok {es:List FE} {ps:List PE} {P Q:Nat->Prop} {w:World} {FA PA:Option Addr} (hv:es.map FE.v=smallV) (hr:FRow P w FA es) (hpv:ps.map PE.v=smallP) (hpr:PRow Q w PA ps):FormOk w es ps (xOf es):=by
 obtain ⟨hF,hck,hnd⟩:=small_all hv hr
 obtain ⟨hpl,hpck,hsz⟩:=small_pages hv hpv hpr
 refine ⟨fun i hi => ?_,fun i hi => ?_,srcs_xOf es,hck,hpck⟩
 ·obtain ⟨g,_,_,_,his⟩:=hr i hi
  exact his.is
 ·obtain ⟨g,_,_,_,his⟩:=hpr i hi
  exact his.skip.is
theorem prow_caps {P:Nat->Prop} {w:World} {A:Option Addr} {ps:List PE} (h:PRow P w A ps):∀ e ∈ ps,e.fs.length<=1048576/\e.fs.length<=e.fc:=fun e he => by
 obtain ⟨i,hi,rfl⟩:=List.getElem_of_mem he
 obtain ⟨g,_,_,_,his⟩:=h i hi
 exact ⟨by have:=his.len; omega,his.cap⟩
def flV (v:FV):Fl:=⟨v.nm.data.toList,v.kind,v.ty,v.x⟩
theorem fl_v (es:List FE):es.map flE=(es.map FE.v).map flV:=by rw [List.map_map]; rfl
theorem small_txt:flL (flV ⟨⟨#[98]⟩,2,1,sx0⟩)=[102,111,114,109,117,108,97,32,98,32,105,110,116,32,61,32,97,32,43,32,49]:=by kernel_rfl
theorem small_txt2:flL (flV ⟨⟨#[97]⟩,1,1,zeroX⟩)=[105,110,112,117,116,32,97,32,105,110,116]:=by kernel_rfl
theorem small_pre {es:List FE} (ps:List PE) (h:es.map FE.v=smallV):Lib.hasPrefix (formL es ps) [102,111,114,109,117,108,97,32,98,32,105,110,116,32,61,32,97,32,43,32,49,10,105,110,112,117,116,32,97,32,105,110,116,10]=true:=by
 refine pre_iff.2 ?_
 have e:es.map flE=[flV ⟨⟨#[98]⟩,2,1,sx0⟩,flV ⟨⟨#[97]⟩,1,1,zeroX⟩,flV ⟨⟨#[99]⟩,3,3,sx2⟩]:=by rw [fl_v,h]; rfl
 unfold formL linesF
 rw [e]
 simp only [List.map_cons,List.map_nil,List.cons_append,List.nil_append]
 rw [small_txt,small_txt2]
 exact ⟨joinN (flL (flV ⟨⟨#[99]⟩,3,3,sx2⟩) :: (ps.map plE).map plL),rfl⟩
theorem twins {w:World} {es es':List FE} (h:es.map flE=es'.map flE) (hi:FIs w es) (hi':FIs w es'):∀ (k:Nat) (a:k < (es.map FE.fd).length) (b:k < (es'.map FE.fd).length),KpS.Twin w (es.map FE.fd)[k] (es'.map FE.fd)[k] (xE es k):=fun k a b => by
 rw [List.length_map] at a b
 rw [List.getElem_map,List.getElem_map,xE_at a]
 obtain ⟨p,q,r,s⟩:=fl_same (at_fl h k a b)
 refine ⟨p,q,r,hi k a,?_⟩
 have:=hi' k b
 rw [← s] at this
 show Is w es[k].x es'[k].x.d es'[k].B es'[k].m
 rw [← s]
 exact this
theorem pl1_same {p q:PE} (h:(plE p).1=(plE q).1):p.nm=q.nm/\p.fs=q.fs/\p.x=q.x:=by
 unfold plE at h
 injection h with a b c
 exact ⟨bytes_eq a,map_bytes b,c⟩
theorem twinsP {w:World} {ps qs:List PE} (h:pls ps=pls qs) (hp:PgsOk w ps) (hq:PgsOk w qs) (hn:∀ e ∈ ps,e.fs.length<=1048576):∀ (k:Nat) (a:k < ps.length) (b:k < qs.length),TwinT w ps[k] qs[k]:=fun k a b => by
 have e:(plE ps[k]).1=(plE qs[k]).1:=by
  have:=congrArg (fun l => l[k]?) h
  unfold pls at this
  simpa [a,b] using this
 obtain ⟨x,y,z⟩:=pl1_same e
 exact ⟨x,y,z,(hp _ (List.getElem_mem a)).row,(hq _ (List.getElem_mem b)).row,hn _ (List.getElem_mem a),(hp _ (List.getElem_mem a)).skip,(hq _ (List.getElem_mem b)).skip⟩
def BackOut (es:List FE) (ps:List PE) (w:World) (e:Ending) (w':World):Prop :=
 Below w.heap.size w w'/\((∃ (es':List FE) (ps':List PE) (FA:Option Addr) (fc:Nat) (PA:Option Addr) (pc:Nat),es.map flE=es'.map flE/\pls ps=pls ps'/\FormIn (es'.map FE.fd) (xE es') FA fc ps' PA pc w'/\FIs w' es'/\e=.returned (.tuple #[.agg #[.slice FA es'.length fc,.slice PA ps'.length pc],.int .i64 0,.int .i64 0])) ∨
  ((∃ l ∈ linesF (es.map flE) (ps.map plE),160 < l.length)/\∃ k:Int,e=.returned (.tuple #[zeroFm,.int .i64 k,.int .i64 1])))
theorem back_of {es:List FE} {ps:List PE} {w w':World} {e:Ending} (hok:FormOk w es ps (xOf es)) (hrk:rankE (es.map FE.fd) (xOf es)=0) (h:ReadOut (formL es ps) w e w'):BackOut es ps w e w':=by
 obtain ⟨hb,h⟩:=h
 refine ⟨hb,?_⟩
 rw [hok.split] at h
 have hfew:=hok.few
 have hlen:(linesF (es.map flE) (ps.map plE)).length<=20:=by unfold linesF; simp; omega
 rcases hok.back with hbk | ⟨hbk,hlong⟩
 ·rcases h with ⟨h1,_⟩ | ⟨_,h2,_⟩ | ⟨_,_,es',ps',FA,fc,PA,pc,e1,e2,hin,hfi,rfl⟩
  ·omega
  ·rw [hbk] at h2; exact absurd rfl h2
  ·left
   rw [hbk] at e1 e2
   have e2':pls ps=pls ps':=by
    rw [e2]; unfold pls; rw [List.map_map]; rfl
   refine ⟨es',ps',FA,fc,PA,pc,e1.symm,e2',hin,hfi,?_⟩
   have hpp:PIs' w' ps':=fun i hi => (hin.ok _ (List.getElem_mem hi)).skip
   have hfe:formE (es'.map FE.fd) (xE es') ps'=0:=by
    unfold formE
    have hr:rankE (es'.map FE.fd) (xE es')=0:=by rw [← rank_same e1.symm hok.fi hfi (srcs_xOf es) (srcs_xE es')]; exact hrk
    rw [if_pos hr]
    have hp:=pls_of (w:=w) (w':=w') (ps:=ps) (ps':=ps') e2' hok.pi hpp
    rw [← checkP_same e1.symm hp]
    exact hok.pages
   rw [if_pos hfe]
 ·rcases h with ⟨h1,_⟩ | ⟨_,h2,rfl⟩ | ⟨_,h2,_⟩
  ·omega
  ·rw [hbk]
   exact .inr ⟨hlong,_,rfl⟩
  ·rw [hbk] at h2; exact absurd h2 (by decide)
theorem back_same {es:List FE} {ps:List PE} {FA PA:Option Addr} {fc pc:Nat} {w w':World} {e:Ending} (hok:FormOk w es ps (xOf es)) (hfl:Flds w FA (es.map FE.fd)) (hpg:Pgs w PA ps) (hpo:PgsOk w ps) (hps:∀ e ∈ ps,e.fs.length<=1048576) (h:BackOut es ps w e w') :
  ∃ (GA QA:Option Addr) (gn gc qn qc:Nat) (k er:Int),e=.returned (.tuple #[.agg #[.slice GA gn gc,.slice QA qn qc],.int .i64 k,.int .i64 er])/\Below w.heap.size w w'/\((er=0/\∀ V,Below w'.heap.size w' V->Calls Tryz.prog 17 #[.agg #[.slice FA es.length fc,.slice PA ps.length pc],.agg #[.slice GA gn gc,.slice QA qn qc]] V fun r w2 => r=.returned (.bool true)/\Below V.heap.size V w2) ∨
   (er=1/\∃ l ∈ linesF (es.map flE) (ps.map plE),160 < l.length)):=by
 obtain ⟨hb,⟨es',ps',GA,gc,QA,qc,e1,e2,hin,hfi,rfl⟩ | ⟨hl,k,rfl⟩⟩:=h
 ·refine ⟨_,_,_,_,_,_,_,_,rfl,hb,.inl ⟨rfl,fun V hV => ?_⟩⟩
  have hbV:=hb.trans (hV.mono hb.size)
  have hl1:=len_same e1
  have hl2:ps.length=ps'.length:=by have:=congrArg List.length e2; unfold pls at this; rwa [List.length_map,List.length_map] at this
  have hfew:=hok.few
  have:=sameForm_any (es.map FE.fd) (es'.map FE.fd) (xE es) ps ps' FA GA PA QA fc gc pc qc V (by rw [List.length_map,List.length_map,hl1]) (by rw [List.length_map]; unfold maxLen; omega) (hfl.below hbV) (hin.fl.below hV) (twins e1 (fun i hi => (hok.fi i hi).below hbV) (fun i hi => (hfi i hi).below hV)) hl2 (by unfold maxLen; omega) (hpg.below hbV) (hin.pg.below hV) (twinsP e2 (hpo.below hbV) (PgsOk.below hin.ok hV) hps)
  rw [List.length_map] at this
  rw [← hl1,← hl2]
  exact this
 ·exact ⟨_,_,_,_,_,_,_,_,rfl,hb,.inr ⟨rfl,hl⟩⟩
end TxK
end Go.Proofs.YtdefaeieiaegaaaGreatDoor
