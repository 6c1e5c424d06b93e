/- PsParsed Parse PsLeaf: what these laws name of them. -/
import Derived.Tactics
import Derived.Tactics2
import Derived.Defers
import Derived.Recover
import Derived.Laws.Pointers
import Derived.Deep.RegionWith
import Derived.Maps.AppendAt
import Derived.Deep.AppendLies
import Derived.Deep.DeepCutAuto
import Derived.Deep.CutBlock
import Derived.Test.YtdefaeieiaegaaaGreatDoorChecked
import Derived.WalkKit
import Derived.WalkSpells
import Derived.ProofKit
import Derived.Lib.Hide
import Derived.WalkLawsBesides
import Derived.BigQuiet
import Derived.Deep.RegionHeld3
import Derived.Deep.QuietTactic
import Derived.ChangeOld
import Derived.Deep.DrawnRows
import Derived.RegionTactic
import Derived.BigRegion
import Derived.RegionDies
import Derived.Deep.RegionLaw
import Derived.LaidLaws
import Derived.ChangeArms
import Derived.Lib.LaidTab
import Derived.WideShapes
import GoSem.Claim
import Derived.Lib.Bytealg
import Derived.Lib.Small
import Derived.Lib.AtoiAll
import Derived.Below
import Derived.Deep.Draws
import Derived.Test.YtdefaeieiaegaaaGreatDoorProg
import Derived.Outline
import Derived.IntWalk
import Derived.Laws.OwnMore
import Derived.OwnWalk
import Derived.ChangeAlike
import Derived.RangeFuncNested
import Derived.RangeFuncBound
import Derived.RangeFuncCalls
import Derived.RangeFuncLeaves
import Derived.Shelf.Abstract
import Derived.Shelf.RegionOpen
import Derived.OwnWalkIn
import Derived.TacticsInMore
import Derived.LoopNIn
import Derived.LoopIn
import Derived.LaidMore
import Derived.RangeFuncBox
import Derived.WalkSmall
import Derived.Lib.AppendIntMem
import Derived.Lib.ItoaLen
import Derived.Shelf.Strings.Builder1
import Derived.Shelf.Strings.Builder2
import Derived.Shelf.Strings.OnBuilder
import Derived.Shelf.Small.Bits
import Derived.Shelf.Small.Wraps
import Derived.Shelf.Strings.BuilderF
import Derived.Shelf.Strings.BuilderK
import Derived.Shelf.Strconv.Atoi
import Derived.Shelf.Strconv.Itoa0
import Derived.Shelf.Strconv.Itoa1
import Derived.Shelf.LaysM
import Derived.Shelf.Strconv.Itoa2
import Derived.Shelf.Strconv.Itoa3
import Derived.Shelf.Strconv.AtoiErrFast
import Derived.Shelf.Strconv.ParseIntEmpty
import Derived.Shelf.Strconv.AtoiFail
import Derived.Shelf.Strconv.Clone
import Derived.Shelf.Strconv.SyntaxError
import Derived.Shelf.LaysC
import Derived.Shelf.Strconv.ToError
import Derived.Shelf.Strconv.Lower
import Derived.Shelf.Strconv.ParseUint10
import Derived.Shelf.Strconv.ParseUint10Empty
import Derived.Shelf.Strconv.ParseUint10Any
import Derived.Shelf.Strconv.ParseInt10
import Derived.Shelf.Strconv.AtoiLong
import Derived.Shelf.Strconv.AtoiInnerAll
import Derived.Shelf.Strconv.RangeError
import Derived.Shelf.Strconv.ToErrorRange
import Derived.Shelf.Strconv.AtoiAll
import Derived.Shelf.Strconv.ErrVarAll
import Derived.Shelf.Strings.Search1
import Derived.Shelf.Strings.Search2
import Derived.Shelf.Strings.Search3
import Derived.Shelf.Strings.Cut
import Derived.Shelf.Strings.Count
import Derived.Shelf.Strings.Shaped
import Derived.Shelf.Strings.Prefix
import Derived.Shelf.Strings.Split
import Derived.Shelf.Bits.Mul64
import Derived.Shelf.Unicode.DecodeSlow
import Derived.Shelf.Slices.Turned
import Derived.Shelf.Slices.Equal
import Derived.Ground.Names2Prog
import Derived.Shelf.Slices.Clone
import Derived.Shelf.Slices.Empties2
import Derived.Ground.SlgfProg
import Derived.Shelf.SlicesE.IndexFunc
import Derived.Ground.SlgmProg
import Derived.Shelf.SortM.Plain
import Derived.Shelf.SortM.SortNone
import Derived.Lib.UnsafeStr
import Derived.Lib.ItoaNum
import Derived.Lib.AtoiTie
import Derived.Lib.ItoaMem
import Derived.Test.YtdefaeieiaegaaaGreatDoorKtE02
import Derived.Test.YtdefaeieiaegaaaGreatDoorKtE04
import Derived.Test.YtdefaeieiaegaaaGreatDoorKtE06
import Derived.Test.YtdefaeieiaegaaaGreatDoorKtE14
import Derived.Test.YtdefaeieiaegaaaGreatDoorKtE15
namespace Go.Proofs.YtdefaeieiaegaaaGreatDoor
set_option linter.unusedVariables false
namespace PsD
open Go.RowKit
open LexM ExM Kit ExL ExP PsM PsT NmC Ps PsR PsL PsA PsF PsT2
set_option linter.unusedVariables false
theorem as_tok (v:Value) (w:World):(Instr.typeAssert (.iface 222 v) 20 222 true).run Tryz.prog w=.ok (.tuple #[v,.bool true]) w:=by kernel_rfl
theorem as_tok_no (v:Value) (w:World):(Instr.typeAssert (.iface 224 v) 20 222 true).run Tryz.prog w=.ok (.tuple #[.agg #[.int .i64 0,.int .i64 0,.string ⟨#[]⟩,.int .i64 0,.int .i64 0,.string ⟨#[]⟩],.bool false]) w:=by kernel_rfl
theorem as_end (v:Value) (w:World):(Instr.typeAssert (.iface 224 v) 20 224 true).run Tryz.prog w=.ok (.tuple #[v,.bool true]) w:=by kernel_rfl
set_option maxHeartbeats 2000000 in
theorem catch_idle (p q r:Addr) (w:World) :
  CallsD Tryz.prog 192 #[.pointer (some p),.pointer (some q),.pointer (some r)] .returning w fun e u' w' => e=.returned (.tuple #[])/\u'=.returning/\w'=w:=by
 refine callsD_of_wpS Tryz.func192 rfl fun c₀ cs hu => ?_
 simp only [Tryz.ntmps192,List.size_toArray,List.length_cons,List.length_nil,Nat.reduceAdd,Nat.reduceSub,Array.replicate_succ,Array.replicate_zero,List.push_toArray,List.append_toArray,List.nil_append,List.cons_append]
 apply wpS_seq
 apply wpS_region
 simp [wpOpsS,go_sem,recoverD,hu,Exit.thenS]
 refine wpS_of_wp ?_
 go_wp2_with fail
 refine ⟨rfl,.returning,?_,_,by simp [results,Tryz.results192],rfl,rfl,rfl⟩
 cases c₀; simp_all
set_option maxRecDepth 100000 in
set_option maxHeartbeats 4000000 in
theorem catch_tok (bp bq br:Nat) (kd p vk nn a0 e0:Int) (u t:ByteArray) (w:World) (h1:w.cell? ⟨bp,0,none⟩=some (.int .i64 a0)) (h2:w.frozen? ⟨bp,0,none⟩=false) (h3:w.cell? ⟨bq,0,none⟩=some (.int .i64 e0)) (h4:w.frozen? ⟨bq,0,none⟩=false) (hne:bp ≠ bq) (l1:bp < w.heap.size) (l2:bq < w.heap.size) :
  CallsD Tryz.prog 192 #[.pointer (some ⟨bp,0,none⟩),.pointer (some ⟨bq,0,none⟩),.pointer (some ⟨br,0,none⟩)] (.panicking [{ v:=.iface 222 (.agg #[.int .i64 kd,.int .i64 p,.string u,.int .i64 vk,.int .i64 nn,.string t]),recovered:=false }]) w fun e u' w' => e=.returned (.tuple #[])/\u'=.panicking [{ v:=.iface 222 (.agg #[.int .i64 kd,.int .i64 p,.string u,.int .i64 vk,.int .i64 nn,.string t]),recovered:=true }] ∧
   ∃ o,w'=((w.setCell ⟨bp,0,none⟩ (.int .i64 p)).setCell ⟨bq,0,none⟩ (.int .i64 3)).alloc o:=by
 refine callsD_of_wpS Tryz.func192 rfl fun c₀ cs hu => ?_
 simp only [Tryz.ntmps192,List.size_toArray,List.length_cons,List.length_nil,Nat.reduceAdd,Nat.reduceSub,Array.replicate_succ,Array.replicate_zero,List.push_toArray,List.append_toArray,List.nil_append,List.cons_append]
 apply wpS_seq
 apply wpS_region
 simp [wpOpsS,go_sem,recoverD,hu,Exit.thenS]
 refine wpS_of_wp ?_
 have a1:=as_tok (.agg #[.int .i64 kd,.int .i64 p,.string u,.int .i64 vk,.int .i64 nn,.string t]) w
 go_wp2_with fail
 exact ⟨rfl,_,rfl,_,by simp [results,Tryz.results192],rfl,rfl,_,rfl⟩
set_option maxRecDepth 100000 in
set_option maxHeartbeats 4000000 in
theorem catch_end (bp bq br:Nat) (a0 e0 ln:Int) (w:World) (h1:w.cell? ⟨bp,0,none⟩=some (.int .i64 a0)) (h2:w.frozen? ⟨bp,0,none⟩=false) (h3:w.cell? ⟨bq,0,none⟩=some (.int .i64 e0)) (h4:w.frozen? ⟨bq,0,none⟩=false) (h5:w.cell? ⟨br,0,none⟩=some (.int .i64 ln)) (hne:bp ≠ bq) (l1:bp < w.heap.size) (l2:bq < w.heap.size) (l3:br < w.heap.size) :
  CallsD Tryz.prog 192 #[.pointer (some ⟨bp,0,none⟩),.pointer (some ⟨bq,0,none⟩),.pointer (some ⟨br,0,none⟩)] (.panicking [{ v:=.iface 224 (.agg #[]),recovered:=false }]) w fun e u' w' => e=.returned (.tuple #[])/\u'=.panicking [{ v:=.iface 224 (.agg #[]),recovered:=true }] ∧
   ∃ o,w'=((w.setCell ⟨bp,0,none⟩ (.int .i64 ln)).setCell ⟨bq,0,none⟩ (.int .i64 3)).alloc o:=by
 refine callsD_of_wpS Tryz.func192 rfl fun c₀ cs hu => ?_
 simp only [Tryz.ntmps192,List.size_toArray,List.length_cons,List.length_nil,Nat.reduceAdd,Nat.reduceSub,Array.replicate_succ,Array.replicate_zero,List.push_toArray,List.append_toArray,List.nil_append,List.cons_append]
 apply wpS_seq
 apply wpS_region
 simp [wpOpsS,go_sem,recoverD,hu,Exit.thenS]
 refine wpS_of_wp ?_
 have a1:=as_tok_no (.agg #[]) w
 have a2:=as_end (.agg #[]) w
 go_wp2_with fail
 exact ⟨rfl,_,rfl,_,by simp [results,Tryz.results192],rfl,rfl,_,rfl⟩
theorem box5 (w:World) (o0 o1 o2 o3 o4:Obj):(((((w.alloc o0).alloc o1).alloc o2).alloc o3).alloc o4).heap[w.heap.size]?=some o0/\(((((w.alloc o0).alloc o1).alloc o2).alloc o3).alloc o4).heap[w.heap.size + 1]?=some o1/\(((((w.alloc o0).alloc o1).alloc o2).alloc o3).alloc o4).heap[w.heap.size + 1 + 1]?=some o2/\(((((w.alloc o0).alloc o1).alloc o2).alloc o3).alloc o4).heap[w.heap.size + 1 + 1 + 1]?=some o3/\(((((w.alloc o0).alloc o1).alloc o2).alloc o3).alloc o4).heap[w.heap.size + 1 + 1 + 1 + 1]?=some o4:=by
 have a0:=World.alloc_heap_new w o0
 have a1:=World.alloc_heap_new (w.alloc o0) o1
 have a2:=World.alloc_heap_new ((w.alloc o0).alloc o1) o2
 have a3:=World.alloc_heap_new (((w.alloc o0).alloc o1).alloc o2) o3
 have a4:=World.alloc_heap_new ((((w.alloc o0).alloc o1).alloc o2).alloc o3) o4
 simp only [World.size_alloc] at a1 a2 a3 a4
 have k:=fun (v:World) (o:Obj) (b:Nat) (x:Obj) (h:v.heap[b]?=some x) => ((b_new v o).block b (Array.getElem?_eq_some_iff.1 h).1).trans h
 exact ⟨k _ _ _ _ (k _ _ _ _ (k _ _ _ _ (k _ _ _ _ a0))),k _ _ _ _ (k _ _ _ _ (k _ _ _ _ a1)),k _ _ _ _ (k _ _ _ _ a2),k _ _ _ _ a3,a4⟩
theorem cell1 {W:World} {b:Nat} {v:Value} {t:TypeId} (h:W.heap[b]?=some (.cells #[v] t (0,0))):W.cell? ⟨b,0,none⟩=some v/\W.frozen? ⟨b,0,none⟩=false/\b < W.heap.size :=
 ⟨by simp [World.cell?,h],by simp [World.frozen?,h],(Array.getElem?_eq_some_iff.1 h).1⟩
theorem after_catch {w w1:World} {b1 b2 b3:Nat} {a0 e0 a er:Int} {t2 t3:TypeId} {o1:Obj} (hb:Below w.heap.size w w1) (h1:w1.heap[b1]?=some o1) (h2:w1.heap[b2]?=some (.cells #[.int .i64 a0] t2 (0,0))) (h3:w1.heap[b3]?=some (.cells #[.int .i64 e0] t3 (0,0))) (n12:b1 ≠ b2) (n13:b1 ≠ b3) (n23:b2 ≠ b3) (g2:w.heap.size<=b2) (g3:w.heap.size<=b3) (o:Obj) :
  (((w1.setCell ⟨b2,0,none⟩ (.int .i64 a)).setCell ⟨b3,0,none⟩ (.int .i64 er)).alloc o).heap[b1]?=some o1/\(((w1.setCell ⟨b2,0,none⟩ (.int .i64 a)).setCell ⟨b3,0,none⟩ (.int .i64 er)).alloc o).heap[b2]?=some (.cells #[.int .i64 a] t2 (0,0))/\(((w1.setCell ⟨b2,0,none⟩ (.int .i64 a)).setCell ⟨b3,0,none⟩ (.int .i64 er)).alloc o).heap[b3]?=some (.cells #[.int .i64 er] t3 (0,0))/\Below w.heap.size w (((w1.setCell ⟨b2,0,none⟩ (.int .i64 a)).setCell ⟨b3,0,none⟩ (.int .i64 er)).alloc o)/\w1.grownBy (w1.setCell ⟨b2,0,none⟩ (.int .i64 a)) (some b2):=by
 have e2:(w1.setCell ⟨b2,0,none⟩ (.int .i64 a)).heap[b2]?=some (.cells #[.int .i64 a] t2 (0,0)):=heap_setCell_same w1 b2 0 _ _ (.int .i64 a) h2
 have e3:(w1.setCell ⟨b2,0,none⟩ (.int .i64 a)).heap[b3]?=_:=(Below.heap_setCell w1 ⟨b2,0,none⟩ (.int .i64 a) b3 (fun e => n23 e.symm)).trans h3
 have e1:(w1.setCell ⟨b2,0,none⟩ (.int .i64 a)).heap[b1]?=_:=(Below.heap_setCell w1 ⟨b2,0,none⟩ (.int .i64 a) b1 n12).trans h1
 have k3:=heap_setCell_same (w1.setCell ⟨b2,0,none⟩ (.int .i64 a)) b3 0 _ _ (.int .i64 er) e3
 have k2:=(Below.heap_setCell (w1.setCell ⟨b2,0,none⟩ (.int .i64 a)) ⟨b3,0,none⟩ (.int .i64 er) b2 n23).trans e2
 have k1:=(Below.heap_setCell (w1.setCell ⟨b2,0,none⟩ (.int .i64 a)) ⟨b3,0,none⟩ (.int .i64 er) b1 n13).trans e1
 have kk:=fun (v:World) (o:Obj) (b:Nat) (x:Obj) (h:v.heap[b]?=some x) => ((b_new v o).block b (Array.getElem?_eq_some_iff.1 h).1).trans h
 have hbb:=(hb.setCell (p:=⟨b2,0,none⟩) g2 (.int .i64 a)).setCell (p:=⟨b3,0,none⟩) g3 (.int .i64 er)
 exact ⟨kk _ o _ _ k1,kk _ o _ _ k2,kk _ o _ _ k3,hbb.trans ((b_new _ o).mono hbb.size),grown_set _ _ _ _⟩
theorem after_idle {w w1:World} {b1 b2 b3:Nat} {a0 e0:Int} {t2 t3:TypeId} {o1:Obj} (hb:Below w.heap.size w w1) (h1:w1.heap[b1]?=some o1) (h2:w1.heap[b2]?=some (.cells #[.int .i64 a0] t2 (0,0))) (h3:w1.heap[b3]?=some (.cells #[.int .i64 e0] t3 (0,0))) (n12:b1 ≠ b2) (n13:b1 ≠ b3) (n23:b2 ≠ b3) (g2:w.heap.size<=b2) (g3:w.heap.size<=b3) (a er:Int) :
  ((w1.setCell ⟨b2,0,none⟩ (.int .i64 a)).setCell ⟨b3,0,none⟩ (.int .i64 er)).heap[b1]?=some o1/\((w1.setCell ⟨b2,0,none⟩ (.int .i64 a)).setCell ⟨b3,0,none⟩ (.int .i64 er)).heap[b2]?=some (.cells #[.int .i64 a] t2 (0,0))/\((w1.setCell ⟨b2,0,none⟩ (.int .i64 a)).setCell ⟨b3,0,none⟩ (.int .i64 er)).heap[b3]?=some (.cells #[.int .i64 er] t3 (0,0))/\Below w.heap.size w ((w1.setCell ⟨b2,0,none⟩ (.int .i64 a)).setCell ⟨b3,0,none⟩ (.int .i64 er)):=by
 have e2:(w1.setCell ⟨b2,0,none⟩ (.int .i64 a)).heap[b2]?=some (.cells #[.int .i64 a] t2 (0,0)):=heap_setCell_same w1 b2 0 _ _ (.int .i64 a) h2
 have e3:(w1.setCell ⟨b2,0,none⟩ (.int .i64 a)).heap[b3]?=_:=(Below.heap_setCell w1 ⟨b2,0,none⟩ (.int .i64 a) b3 (fun e => n23 e.symm)).trans h3
 have e1:(w1.setCell ⟨b2,0,none⟩ (.int .i64 a)).heap[b1]?=_:=(Below.heap_setCell w1 ⟨b2,0,none⟩ (.int .i64 a) b1 n12).trans h1
 have k3:=heap_setCell_same (w1.setCell ⟨b2,0,none⟩ (.int .i64 a)) b3 0 _ _ (.int .i64 er) e3
 have k2:=(Below.heap_setCell (w1.setCell ⟨b2,0,none⟩ (.int .i64 a)) ⟨b3,0,none⟩ (.int .i64 er) b2 n23).trans e2
 have k1:=(Below.heap_setCell (w1.setCell ⟨b2,0,none⟩ (.int .i64 a)) ⟨b3,0,none⟩ (.int .i64 er) b1 n13).trans e1
 exact ⟨k1,k2,k3,(hb.setCell (p:=⟨b2,0,none⟩) g2 (.int .i64 a)).setCell (p:=⟨b3,0,none⟩) g3 (.int .i64 er)⟩
def atOf (len:Int):List Tk->Int
 | [] => len
 | t :: _ => t.pos
def ParsedOut (w:World) (R:Ex->Int->Int->Prop) (e:Ending) (w':World):Prop :=
 ∃ (x:Ex) (d:Nd) (B:Option Addr) (m cp:Nat) (a er:Int),e=.returned (.tuple #[.agg #[.int .i64 d.op,.int .i64 d.k,.int .i64 d.n,.string d.s,.string d.nm,.slice B m cp],.int .i64 a,.int .i64 er])/\IsP (fun b => w.heap.size<=b) w' x d B m/\R x a er/\Below w.heap.size w w'
set_option maxRecDepth 100000 in
set_option maxHeartbeats 8000000 in
theorem parsed_any (L:List Tk) (A:Option Addr) (c:Nat) (ln:Int) (w:World) (hE:∀ P,w.heap.size<=P->Env w P A L) (hFu:Full L) (hSm:Small L) (o:Out) (ho:Ev (.form 0) L o) (hsh:PsTot.Shape L.length o) :
  Calls Tryz.prog 162 #[.slice A L.length c,.int .i64 ln] w (ParsedOut w fun x a er => (o=.ok [x] []/\a=0/\er=0) ∨ ∃ r,((∃ x,o=.ok [x] r/\r ≠ []) ∨ o=.bad r)/\a=atOf ln r/\er=3):=by
 have hmf:∀ (fn:Fn) (first cap:Array Value) (w:World),(Instr.makeFunc fn first cap).run Tryz.prog w=.ok (.func fn first cap) w:=fun _ _ _ _ => rfl
 obtain ⟨hnt,f,hrun⟩:=ho
 have hrun:=hrun f (Nat.le_refl _)
 obtain ⟨V,hV⟩:∃ V,((((w.alloc (.cells #[.int .i64 ln] 3)).alloc (.cells #[.int .i64 0,.int .i64 0,.int .i64 0,.string ⟨#[]⟩,.string ⟨#[]⟩,.slice none 0 0] 50)).alloc (.cells #[.int .i64 0] 3)).alloc (.cells #[.int .i64 0] 26)).alloc (.cells #[.slice A L.length c,.int .i64 0] 226)=V:=⟨_,rfl⟩
 have hbV:Below w.heap.size w V:=by rw [← hV]; exact b_more (b_more (b_more (b_more (b_new _ _) _) _) _) _
 have hsV:V.heap.size=w.heap.size + 5:=by rw [← hV]; simp
 have hbx:V.heap[w.heap.size]?=some (.cells #[.int .i64 ln] 3 (0,0))/\V.heap[w.heap.size + 1]?=some (.cells #[.int .i64 0,.int .i64 0,.int .i64 0,.string ⟨#[]⟩,.string ⟨#[]⟩,.slice none 0 0] 50 (0,0))/\V.heap[w.heap.size + 1 + 1]?=some (.cells #[.int .i64 0] 3 (0,0))/\V.heap[w.heap.size + 1 + 1 + 1]?=some (.cells #[.int .i64 0] 26 (0,0))/\V.heap[w.heap.size + 1 + 1 + 1 + 1]?=some (.cells #[.slice A L.length c,.int .i64 0] 226 (0,0)):=by
  rw [← hV]; exact box5 w _ _ _ _ _
 have hSt:St w (w.heap.size + 1 + 1 + 1 + 1) A c L V 0:=⟨hbx.2.2.2.2,hbV,Nat.zero_le _⟩
 have hEP:=hE (w.heap.size + 1 + 1 + 1 + 1) (by omega)
 have hc:=form_all (c:=c) hEP hFu hSm f 0 V 0 o (by omega) hrun hnt hSt
 have HC:=Lib.hid hc
 have HV:=Lib.hid hV
 have HBV:=Lib.hid hbV
 have HEP:=Lib.hid hEP
 have HBx:=Lib.hid hbx
 clear hc hV hbV hEP hbx hSt hE hrun hnt
 go_enter_defers Tryz.func162,Tryz.ntmps162
 go_wp2_with fail
 rw [HV.out]
 refine HC.out.mono ?_; intro e w1 he
 have hkeep:∀ W1,V.grownBy W1 (some (w.heap.size + 1 + 1 + 1 + 1))->(W1.heap[w.heap.size]?=some (.cells #[.int .i64 ln] 3 (0,0))/\W1.heap[w.heap.size + 1]?=some (.cells #[.int .i64 0,.int .i64 0,.int .i64 0,.string ⟨#[]⟩,.string ⟨#[]⟩,.slice none 0 0] 50 (0,0))/\W1.heap[w.heap.size + 1 + 1]?=some (.cells #[.int .i64 0] 3 (0,0))/\W1.heap[w.heap.size + 1 + 1 + 1]?=some (.cells #[.int .i64 0] 26 (0,0)))/\Below w.heap.size w W1:=fun W1 hg => by
  obtain ⟨b0,b1,b2,b3,_⟩:=HBx.out
  have k:∀ b,b < w.heap.size + 1 + 1 + 1 + 1->W1.heap[b]?=V.heap[b]?:=fun b hb => hg.block b (by omega) (fun e => by injection e with e; omega)
  exact ⟨⟨(k _ (by omega)).trans b0,(k _ (by omega)).trans b1,(k _ (by omega)).trans b2,(k _ (by omega)).trans b3⟩,HBV.out.grown hg HBV.out.size (fun j e => by injection e with e; omega)⟩
 cases o with
 | tired => exact he.elim
 | bad r =>
  obtain ⟨v,rfl,hw,hg⟩:=he
  obtain ⟨⟨b0,b1,b2,b3⟩,hbw⟩:=hkeep w1 hg
  obtain ⟨x0,f0,l0⟩:=cell1 b0
  obtain ⟨x2,f2,l2⟩:=cell1 b2
  obtain ⟨x3,f3,l3⟩:=cell1 b3
  obtain ⟨x1,f1⟩:=cells_of b1
  have l1:=(Array.getElem?_eq_some_iff.1 b1).1
  have HBw:=Lib.hid hbw
  have HB:=Lib.hid (And.intro b1 (And.intro b2 b3))
  clear hkeep hg b0 b1 b2 b3 hbw HBx HC HV
  rcases hw with ⟨rfl,rfl⟩ | ⟨t,r',rfl,rfl⟩
  ·go_wp2_with fail
   refine leaves_cons (f:=192) (args:=#[.pointer (some ⟨w.heap.size + 1 + 1,0,none⟩),.pointer (some ⟨w.heap.size + 1 + 1 + 1,0,none⟩),.pointer (some ⟨w.heap.size,0,none⟩)]) (by simp) (by simp [go_sem]) ?_
   refine (catch_end (w.heap.size + 1 + 1) (w.heap.size + 1 + 1 + 1) w.heap.size 0 0 ln w1 x2 f2 x3 f3 x0 (by omega) l2 l3 l0).mono ?_
   rintro e u' w'' ⟨rfl,rfl,o,rfl⟩
   obtain ⟨k1,k2,k3,kb,_⟩:=after_catch (a:=ln) (er:=3) HBw.out HB.out.1 HB.out.2.1 HB.out.2.2 (by omega) (by omega) (by omega) (by omega) (by omega) o
   obtain ⟨W2,hW2⟩:∃ W2,((w1.setCell ⟨w.heap.size + 1 + 1,0,none⟩ (.int .i64 ln)).setCell ⟨w.heap.size + 1 + 1 + 1,0,none⟩ (.int .i64 3)).alloc o=W2:=⟨_,rfl⟩
   rw [hW2] at k1 k2 k3 kb ⊢
   obtain ⟨y1,_⟩:=cells_of k1
   obtain ⟨y2,_⟩:=cell1 k2
   obtain ⟨y3,_⟩:=cell1 k3
   clear hW2 x0 x1 x2 x3 f0 f1 f2 f3
   simp [Leaves,settle,results,Tryz.results162,go_sem,y1,y2,y3]
   exact ⟨.mk ⟨0,0,0,⟨#[]⟩,⟨#[]⟩⟩ [],⟨0,0,0,⟨#[]⟩,⟨#[]⟩⟩,none,0,0,_,_,rfl,isP_leaf _ _ _ _ (Nat.zero_le _) (Nat.zero_le _),by simp [atOf],kb⟩
  ·go_wp2_with fail
   unfold tkV
   refine leaves_cons (f:=192) (args:=#[.pointer (some ⟨w.heap.size + 1 + 1,0,none⟩),.pointer (some ⟨w.heap.size + 1 + 1 + 1,0,none⟩),.pointer (some ⟨w.heap.size,0,none⟩)]) (by simp) (by simp [go_sem]) ?_
   refine (catch_tok (w.heap.size + 1 + 1) (w.heap.size + 1 + 1 + 1) w.heap.size _ _ _ _ 0 0 _ _ w1 x2 f2 x3 f3 (by omega) l2 l3).mono ?_
   rintro e u' w'' ⟨rfl,rfl,o,rfl⟩
   obtain ⟨k1,k2,k3,kb,_⟩:=after_catch (a:=(t.pos:Int)) (er:=3) HBw.out HB.out.1 HB.out.2.1 HB.out.2.2 (by omega) (by omega) (by omega) (by omega) (by omega) o
   obtain ⟨W2,hW2⟩:∃ W2,((w1.setCell ⟨w.heap.size + 1 + 1,0,none⟩ (.int .i64 (t.pos:Int))).setCell ⟨w.heap.size + 1 + 1 + 1,0,none⟩ (.int .i64 3)).alloc o=W2:=⟨_,rfl⟩
   rw [hW2] at k1 k2 k3 kb ⊢
   obtain ⟨y1,_⟩:=cells_of k1
   obtain ⟨y2,_⟩:=cell1 k2
   obtain ⟨y3,_⟩:=cell1 k3
   clear hW2 x0 x1 x2 x3 f0 f1 f2 f3
   simp [Leaves,settle,results,Tryz.results162,go_sem,y1,y2,y3]
   exact ⟨.mk ⟨0,0,0,⟨#[]⟩,⟨#[]⟩⟩ [],⟨0,0,0,⟨#[]⟩,⟨#[]⟩⟩,none,0,0,_,_,rfl,isP_leaf _ _ _ _ (Nat.zero_le _) (Nat.zero_le _),by simp [atOf],kb⟩
 | ok l r =>
  obtain ⟨x,rfl⟩:∃ x,l=[x]:=by
   match l,he with
   | [],he => exact he.elim
   | x :: y :: l,he => exact he.elim
   | [x],he => exact ⟨x,rfl⟩
  obtain ⟨d,B,m,cp,k',rfl,hix,rfl,_,hS1,hg⟩:=he
  obtain ⟨⟨b0,b1,b2,b3⟩,hbw⟩:=hkeep w1 hg
  have hh:=fun b (hb:b ≠ w.heap.size + 1) => s6_heap w1 (w.heap.size + 1) b hb (.int .i64 d.op) (.int .i64 d.k) (.int .i64 d.n) (.string d.s) (.string d.nm) (.slice B m cp)
  have hgS:=s6_grown w1 (w.heap.size + 1) (.int .i64 d.op) (.int .i64 d.k) (.int .i64 d.n) (.string d.s) (.string d.nm) (.slice B m cp)
  obtain ⟨WS,hWS⟩:∃ W,S6 w1 (w.heap.size + 1) (.int .i64 d.op) (.int .i64 d.k) (.int .i64 d.n) (.string d.s) (.string d.nm) (.slice B m cp)=W:=⟨_,rfl⟩
  have c1:=set6_box b1 (.int .i64 d.op) (.int .i64 d.k) (.int .i64 d.n) (.string d.s) (.string d.nm) (.slice B m cp)
  rw [hWS] at hh hgS c1
  have c0:=(hh _ (by omega)).trans b0
  have c2:=(hh _ (by omega)).trans b2
  have c3:=(hh _ (by omega)).trans b3
  have hbS:Below w.heap.size w WS:=hbw.grown hgS hbw.size (fun j e => by injection e with e; omega)
  have hSS:St w (w.heap.size + 1 + 1 + 1 + 1) A c L WS k':=⟨(hh _ (by omega)).trans hS1.prs,hbS,hS1.le⟩
  have hixS:IsP (fun b => w.heap.size + 5<=b) WS x d B m:=IsP.keep (fun b hb _ => hh b (by have h1:V.heap.size<=b:=hb; omega)) (fun b hb _ => by have h1:V.heap.size<=b:=hb; show w.heap.size + 5<=b; omega) _ _ _ _ hix
  obtain ⟨xx1,ff1⟩:=cells_of b1
  have l1':=(Array.getElem?_eq_some_iff.1 b1).1
  have HWS:=Lib.hid hWS
  clear hkeep hg hh hgS b0 b1 b2 b3 hbw hix hS1 HBx HC HV hWS
  go_upto_region 4 with fail
  unfold S6 at HWS
  rw [HWS.out]
  clear xx1 ff1 l1' HWS
  obtain ⟨x0,f0,l0⟩:=cell1 c0
  obtain ⟨x2,f2,l2⟩:=cell1 c2
  obtain ⟨x3,f3,l3⟩:=cell1 c3
  obtain ⟨x1,f1⟩:=cells_of c1
  have l1:=(Array.getElem?_eq_some_iff.1 c1).1
  obtain ⟨p0,p1⟩:=hSS.at
  have lP:=hSS.lt
  rcases Nat.lt_or_ge k' L.length with hk | hk
  ·have hT:=throw_c HEP.out hSS
   go_wp2_with fail
   refine hT.mono ?_
   rintro e w5 ⟨v,rfl,hw,mm,rfl⟩
   obtain ⟨Wd,hWd⟩:∃ Wd,WS.drewN mm=Wd:=⟨_,rfl⟩
   have hhd:Wd.heap=WS.heap:=by rw [← hWd]; rfl
   have hbd:Below w.heap.size w Wd:=by rw [← hWd]; exact b_drewN hbS mm
   rw [← hhd] at c1 c2 c3
   have hixd:IsP (fun b => w.heap.size + 5<=b) Wd x d B m:=IsP.keep (fun b _ _ => by rw [hhd]) (fun b hb _ => hb) _ _ _ _ hixS
   rw [hWd]
   clear x0 x1 x2 x3 f0 f1 f2 f3 l0 l1 l2 l3 p0 p1 lP
   obtain ⟨x2,f2,l2⟩:=cell1 c2
   obtain ⟨x3,f3,l3⟩:=cell1 c3
   have HB:=Lib.hid (And.intro c1 (And.intro c2 c3))
   have HBd:=Lib.hid hbd
   have HIx:=Lib.hid hixd
   rcases hw with ⟨h0,_⟩ | ⟨t,r',hd,rfl⟩
   ·exact absurd (congrArg List.length h0) (by simp; omega)
   clear c1 c2 c3 c0 hixd hixS hbd hbS hSS hhd hWd hT
   unfold tkV
   refine leaves_cons (f:=192) (args:=#[.pointer (some ⟨w.heap.size + 1 + 1,0,none⟩),.pointer (some ⟨w.heap.size + 1 + 1 + 1,0,none⟩),.pointer (some ⟨w.heap.size,0,none⟩)]) (by simp) (by simp [go_sem]) ?_
   refine (catch_tok (w.heap.size + 1 + 1) (w.heap.size + 1 + 1 + 1) w.heap.size _ _ _ _ 0 0 _ _ Wd x2 f2 x3 f3 (by omega) l2 l3).mono ?_
   rintro e u' w'' ⟨rfl,rfl,o,rfl⟩
   obtain ⟨k1,k2,k3,kb,_⟩:=after_catch (a:=(t.pos:Int)) (er:=3) HBd.out HB.out.1 HB.out.2.1 HB.out.2.2 (by omega) (by omega) (by omega) (by omega) (by omega) o
   have hix3:IsP (fun b => w.heap.size<=b) (((Wd.setCell ⟨w.heap.size + 1 + 1,0,none⟩ (.int .i64 (t.pos:Int))).setCell ⟨w.heap.size + 1 + 1 + 1,0,none⟩ (.int .i64 3)).alloc o) x d B m:=IsP.keep (fun b hb hl => by
    have h1:w.heap.size + 5<=b:=hb
    exact ((b_new _ o).block b (by simp only [sz_set]; exact hl)).trans ((Below.heap_setCell _ ⟨w.heap.size + 1 + 1 + 1,0,none⟩ _ b (by dsimp only; omega)).trans (Below.heap_setCell _ ⟨w.heap.size + 1 + 1,0,none⟩ _ b (by dsimp only; omega)))) (fun b hb _ => by have h1:w.heap.size + 5<=b:=hb; show w.heap.size<=b; omega) _ _ _ _ HIx.out
   obtain ⟨W2,hW2⟩:∃ W2,((Wd.setCell ⟨w.heap.size + 1 + 1,0,none⟩ (.int .i64 (t.pos:Int))).setCell ⟨w.heap.size + 1 + 1 + 1,0,none⟩ (.int .i64 3)).alloc o=W2:=⟨_,rfl⟩
   rw [hW2] at k1 k2 k3 kb hix3 ⊢
   obtain ⟨y1,_⟩:=cells_of k1
   obtain ⟨y2,_⟩:=cell1 k2
   obtain ⟨y3,_⟩:=cell1 k3
   clear hW2 x2 x3 f2 f3
   simp [Leaves,settle,results,Tryz.results162,go_sem,y1,y2,y3]
   exact ⟨x,d,B,m,cp,_,_,rfl,hix3,.inr ⟨t :: r',⟨hd,by simp⟩,rfl,rfl⟩,kb⟩
  ·have HB:=Lib.hid (And.intro (set6_box c1 (.int .i64 d.op) (.int .i64 d.k) (.int .i64 d.n) (.string d.s) (.string d.nm) (.slice B m cp)) (And.intro ((s6_heap WS (w.heap.size + 1) _ (by omega) (.int .i64 d.op) (.int .i64 d.k) (.int .i64 d.n) (.string d.s) (.string d.nm) (.slice B m cp)).trans c2) ((s6_heap WS (w.heap.size + 1) _ (by omega) (.int .i64 d.op) (.int .i64 d.k) (.int .i64 d.n) (.string d.s) (.string d.nm) (.slice B m cp)).trans c3)))
   have HG:=Lib.hid (s6_grown WS (w.heap.size + 1) (.int .i64 d.op) (.int .i64 d.k) (.int .i64 d.n) (.string d.s) (.string d.nm) (.slice B m cp))
   have HH:=Lib.hid (fun b (hb:b ≠ w.heap.size + 1) => s6_heap WS (w.heap.size + 1) b hb (.int .i64 d.op) (.int .i64 d.k) (.int .i64 d.n) (.string d.s) (.string d.nm) (.slice B m cp))
   obtain ⟨WT,hWT⟩:∃ W,S6 WS (w.heap.size + 1) (.int .i64 d.op) (.int .i64 d.k) (.int .i64 d.n) (.string d.s) (.string d.nm) (.slice B m cp)=W:=⟨_,rfl⟩
   rw [hWT] at HB HG HH
   have HWT:=Lib.hid hWT
   clear hWT
   go_wp2_with fail
   unfold S6 at HWT
   rw [HWT.out]
   have hbT:Below w.heap.size w WT:=hbS.grown HG.out hbS.size (fun j e => by injection e with e; omega)
   have hixT:IsP (fun b => w.heap.size + 5<=b) WT x d B m:=IsP.keep (fun b hb _ => HH.out b (by have h1:w.heap.size + 5<=b:=hb; omega)) (fun b hb _ => hb) _ _ _ _ hixS
   refine leaves_cons (f:=192) (args:=#[.pointer (some ⟨w.heap.size + 1 + 1,0,none⟩),.pointer (some ⟨w.heap.size + 1 + 1 + 1,0,none⟩),.pointer (some ⟨w.heap.size,0,none⟩)]) (by simp) (by simp [go_sem]) ?_
   refine (catch_idle ⟨w.heap.size + 1 + 1,0,none⟩ ⟨w.heap.size + 1 + 1 + 1,0,none⟩ ⟨w.heap.size,0,none⟩ _).mono ?_
   rintro e u' w'' ⟨rfl,rfl,rfl⟩
   obtain ⟨k1,k2,k3,kb⟩:=after_idle hbT HB.out.1 HB.out.2.1 HB.out.2.2 (by omega) (by omega) (by omega) (by omega) (by omega) 0 0
   have hix3:IsP (fun b => w.heap.size<=b) ((WT.setCell ⟨w.heap.size + 1 + 1,0,none⟩ (.int .i64 0)).setCell ⟨w.heap.size + 1 + 1 + 1,0,none⟩ (.int .i64 0)) x d B m:=IsP.keep (fun b hb hl => by
    have h1:w.heap.size + 5<=b:=hb
    exact (Below.heap_setCell _ ⟨w.heap.size + 1 + 1 + 1,0,none⟩ _ b (by dsimp only; omega)).trans (Below.heap_setCell _ ⟨w.heap.size + 1 + 1,0,none⟩ _ b (by dsimp only; omega))) (fun b hb _ => by have h1:w.heap.size + 5<=b:=hb; show w.heap.size<=b; omega) _ _ _ _ hixT
   obtain ⟨W2,hW2⟩:∃ W2,(WT.setCell ⟨w.heap.size + 1 + 1,0,none⟩ (.int .i64 0)).setCell ⟨w.heap.size + 1 + 1 + 1,0,none⟩ (.int .i64 0)=W2:=⟨_,rfl⟩
   rw [hW2] at k1 k2 k3 kb hix3 ⊢
   obtain ⟨y1,_⟩:=cells_of k1
   obtain ⟨y2,_⟩:=cell1 k2
   obtain ⟨y3,_⟩:=cell1 k3
   clear hW2 x0 x1 x2 x3 f0 f1 f2 f3
   simp [Leaves,settle,results,Tryz.results162,go_sem,y1,y2,y3]
   exact ⟨x,d,B,m,cp,_,_,rfl,hix3,.inl (by simp <;> omega),kb⟩
end PsD
namespace Parse
open Go.RowKit
open NumM ValM ShowM ParseM Kit Show
set_option linter.unusedVariables false
structure UInv (w:World) (s:ByteArray) (k:Nat) (acc:List UInt8) (wr:World):Prop where
 le:k<=s.size
 isB:Lib.IsBuilder 89 5 w.heap.size w.heap.size (Lib.byteCells acc) wr
 is:acc ++ unq (s.data.toList.drop k)=unq s.data.toList
 len:acc.length<=k
 below:Below w.heap.size w wr
theorem unquoted_any (s:ByteArray) (w:World) (hs:s.size<=140737488351232) :
  Calls Tryz.prog 270 #[.string s] w fun e w' => e=.returned (.string ⟨(unq s.data.toList).toArray⟩)/\Below w.heap.size w w':=by
 have h0:UInv w s 0 [] (w.alloc (.cells #[.pointer none,.slice none 0 0] 89)):=⟨Nat.zero_le _,Lib.fresh_isBuilder 89 5 w,rfl,Nat.le_refl _,b_new w _⟩
 have H0:=Lib.hid h0
 clear h0
 go_enter Tryz.func270,Tryz.ntmps270
 go_wp2_with fail
 go_loopw [4] (fun i wr => ∃ (k:Nat) (acc:List UInt8),i=.int .i64 k/\UInv w s k acc wr) (fun i _ => s.size - (intOf i).toNat)
 case atStart => exact ⟨0,[],rfl,H0.out⟩
 case round =>
  obtain ⟨k,acc,rfl,hI⟩:=hrel
  have hle:=hI.le
  have hsz:=hI.below.size
  have hal:=hI.len
  have hcl:(Lib.byteCells acc).length<=k:=by rw [Lib.byteCells_length]; exact hal
  have HI:=Lib.hid hI
  clear hI
  by_cases hlt:k < s.size
  ·by_cases h34:s[k]=34
   ·have t1:((s[k].toNat:Int) != 34)=false:=by rw [h34]; rfl
    have e:acc=unq s.data.toList:=by have:=HI.out.is; rw [unq_quote s k hlt h34,List.append_nil] at this; exact this
    have HE:=Lib.hid e
    clear e h34
    go_wp2_with fail
    refine (Bld.string w.heap.size w.heap.size _ _ HI.out.isB hsz).mono ?_; rintro e1 w3 ⟨rfl,hb3⟩
    go_wp2_with fail
    go_ret
    exact ⟨by rw [HE.out]; rfl,HI.out.below.trans hb3⟩
   ·have t1:((s[k].toNat:Int) != 34)=true:=by
     rw [bne_iff_ne]; intro g; exact h34 ((byte_eq s[k] 34 (by decide)).2 (by omega))
    by_cases h92:s[k]=92
    ·have t2:((s[k].toNat:Int) == 92)=true:=by rw [h92]; rfl
     by_cases hl2:k + 1 < s.size
     ·have hS:=unq_step2 s k hl2 h92
      have HS:=Lib.hid hS
      clear hS h92 h34
      go_wp2_with fail
      refine (Bld.writeByte w.heap.size w.heap.size _ _ _ HI.out.isB (by omega) hsz).mono ?_; rintro e w3 ⟨rfl,hB3,hb3⟩
      have hN:UInv w s (k + 2) (acc ++ [s[k + 1]]) w3:=⟨by omega,by rw [← cells_snoc]; exact hB3,by
       rw [← HI.out.is,HS.out]; simp,by simp; omega,HI.out.below.trans hb3⟩
      have HN:=Lib.hid hN
      clear hN hB3 hb3
      go_wp2
      go_roundw
      case rel => exact ⟨k + 2,_,by go_num,HN.out⟩
      case measure => simp [intOf]; omega
     ·have hS:=unq_step1 s k hlt h34 (fun h => hl2 h.2)
      have HS:=Lib.hid hS
      clear hS h92 h34
      go_wp2_with fail
      refine (Bld.writeByte w.heap.size w.heap.size _ _ _ HI.out.isB (by omega) hsz).mono ?_; rintro e w3 ⟨rfl,hB3,hb3⟩
      have hN:UInv w s (k + 1) (acc ++ [s[k]]) w3:=⟨by omega,by rw [← cells_snoc]; exact hB3,by
       rw [← HI.out.is,HS.out]; simp,by simp; omega,HI.out.below.trans hb3⟩
      have HN:=Lib.hid hN
      clear hN hB3 hb3
      go_wp2
      go_roundw
      case rel => exact ⟨k + 1,_,by go_num,HN.out⟩
      case measure => simp [intOf]; omega
    ·have t2:((s[k].toNat:Int) == 92)=false:=by
      rw [beq_eq_false_iff_ne]; intro g; exact h92 ((byte_eq s[k] 92 (by decide)).2 (by omega))
     have hS:=unq_step1 s k hlt h34 (fun h => h92 h.1)
     have HS:=Lib.hid hS
     clear hS h92 h34
     go_wp2_with fail
     refine (Bld.writeByte w.heap.size w.heap.size _ _ _ HI.out.isB (by omega) hsz).mono ?_; rintro e w3 ⟨rfl,hB3,hb3⟩
     have hN:UInv w s (k + 1) (acc ++ [s[k]]) w3:=⟨by omega,by rw [← cells_snoc]; exact hB3,by
      rw [← HI.out.is,HS.out]; simp,by simp; omega,HI.out.below.trans hb3⟩
     have HN:=Lib.hid hN
     clear hN hB3 hb3
     go_wp2
     go_roundw
     case rel => exact ⟨k + 1,_,by go_num,HN.out⟩
     case measure => simp [intOf]; omega
  ·have e:acc=unq s.data.toList:=by have:=HI.out.is; rw [unq_stop s k (by omega),List.append_nil] at this; exact this
   have HE:=Lib.hid e
   clear e
   go_wp2_with fail
   refine (Bld.string w.heap.size w.heap.size _ _ HI.out.isB hsz).mono ?_; rintro e1 w3 ⟨rfl,hb3⟩
   go_wp2_with fail
   go_ret
   exact ⟨by rw [HE.out]; rfl,HI.out.below.trans hb3⟩
structure Vars (w:World):Prop where
 pow:Pow w
 syn : ∃ p, w.var? Tryz.prog "strconv.ErrSyntax" = some #[.iface 279 p]
 ran : ∃ p, w.var? Tryz.prog "strconv.ErrRange" = some #[.iface 279 p]
theorem var_below {w w':World} {n:String} {cs:Array Value} (h:w.var? Tryz.prog n=some cs) (hb:Below w.heap.size w w'):w'.var? Tryz.prog n=some cs:=by
 have hg:∃ g,Tryz.prog.globalNamed n=some g/\g < w.heap.size:=by
  unfold World.var? at h
  cases hg:Tryz.prog.globalNamed n with
  | none => simp [hg] at h
  | some g =>
   refine ⟨g,rfl,?_⟩
   rcases Nat.lt_or_ge g w.heap.size with hl | hl
   ·exact hl
   ·simp [hg,Array.getElem?_eq_none hl] at h
 obtain ⟨g,hg,hl⟩:=hg
 exact var?_below hb hg hl h
theorem Vars.below {w w':World} (h:Vars w) (hb:Below w.heap.size w w'):Vars w':=by
 obtain ⟨p,hp⟩:=h.syn
 obtain ⟨q,hq⟩:=h.ran
 exact ⟨h.pow.below hb,⟨p,var_below hp hb⟩,⟨q,var_below hq hb⟩⟩
theorem numbered_ok (k n:Int) (s:ByteArray) (w:World) (hs:s.size<=140737488351232) (h:Lib.atoiAll s.data.toList=.ok n) :
  Calls Tryz.prog 271 #[.int .i64 k,.string s] w fun e w' => e=.returned (.tuple #[.agg #[.int .i64 k,.int .i64 n,.string ⟨#[]⟩],.int .i64 0])/\Below w.heap.size w w':=by
 have hc:∀ W:World,Calls Tryz.prog 163 #[.string s] W fun e w' => e=.returned (.tuple #[.int .i64 n,.nilIface])/\Below W.heap.size W w':=fun W =>
  (Tryz.strconv_Atoi_ok s (by omega) n h W).mono fun e w' hh => ⟨hh.1,by
   rcases hh.2 with rfl | ⟨t,rfl⟩
   ·exact Below.refl _ _
   ·exact Lib.bytesWorld_below _ _ _⟩
 have HC:=Lib.hid hc
 clear hc h
 go_enter Tryz.func271,Tryz.ntmps271
 go_wp2_with fail
 refine (HC.out _).mono ?_; rintro e w1 ⟨rfl,hb1⟩
 obtain ⟨c1,d1⟩:=bcell hb1
 have hz:w.heap.size < w1.heap.size:=Nat.lt_of_lt_of_le (by simp) hb1.size
 go_wp2_with fail
 refine bodyPost_ret (v:=.tuple #[.agg #[.int .i64 k,.int .i64 n,.string ⟨#[]⟩],.int .i64 0]) (by simp [results,Tryz.results271,go_sem,c1]) rfl ⟨rfl,?_⟩
 exact (((b_then hb1).setCell (by simp) _).setCell (by simp) _).setCell (by simp) _
theorem end_cases (e:Lib.NumEnd Int):(∃ n,e=.ok n) ∨ e=Lib.NumEnd.syntax ∨ e=Lib.NumEnd.range:=by cases e <;> simp
theorem numbered_no (k:Int) (s:ByteArray) (w:World) (hs:s.size<=140737488351232) (h:∀ n,Lib.atoiAll s.data.toList ≠ .ok n) (hv:Vars w) :
  Calls Tryz.prog 271 #[.int .i64 k,.string s] w fun e w' => e=.returned (.tuple #[.agg #[.int .i64 0,.int .i64 0,.string ⟨#[]⟩],.int .i64 3])/\Below w.heap.size w w':=by
 obtain ⟨p,hp⟩:=(hv.below (b_new w (.cells #[.int .i64 0,.int .i64 0,.string ⟨#[]⟩] 47))).syn
 obtain ⟨q,hq⟩:=(hv.below (b_new w (.cells #[.int .i64 0,.int .i64 0,.string ⟨#[]⟩] 47))).ran
 have hc:Calls Tryz.prog 163 #[.string s] (w.alloc (.cells #[.int .i64 0,.int .i64 0,.string ⟨#[]⟩] 47)) fun e w' => ∃ (m:Int) (N:Nat),e=.returned (.tuple #[.int .i64 m,.iface 253 (.pointer (some ⟨N,0,none⟩))])/\Below (w.alloc (.cells #[.int .i64 0,.int .i64 0,.string ⟨#[]⟩] 47)).heap.size (w.alloc (.cells #[.int .i64 0,.int .i64 0,.string ⟨#[]⟩] 47)) w':=by
  rcases end_cases (Lib.atoiAll s.data.toList) with ⟨n,ha⟩ | ha | ha
  ·exact absurd ha (h n)
  ·refine (Tryz.strconv_Atoi_syntax_var s (by omega) ha _ p _ hp).mono ?_
   rintro e w' ⟨N,h1,_,_,h2⟩
   exact ⟨0,N,h1,h2⟩
  ·refine (Tryz.strconv_Atoi_range_var s (by omega) ha _ q _ hq).mono ?_
   rintro e w' ⟨N,h1,_,_,h2⟩
   exact ⟨_,N,h1,h2⟩
 have HC:=Lib.hid hc
 clear hc h hp hq hv
 go_enter Tryz.func271,Tryz.ntmps271
 go_wp2_with fail
 refine HC.out.mono ?_; rintro e w1 ⟨m,N,rfl,hb1⟩
 obtain ⟨c1,d1⟩:=bcell hb1
 have hz:w.heap.size < w1.heap.size:=Nat.lt_of_lt_of_le (by simp) hb1.size
 go_wp2_with fail
 refine bodyPost_ret (v:=.tuple #[.agg #[.int .i64 0,.int .i64 0,.string ⟨#[]⟩],.int .i64 3]) (by simp [results,Tryz.results271,go_sem,c1]) rfl ⟨rfl,?_⟩
 exact (((b_then hb1).setCell (by simp) _).setCell (by simp) _).setCell (by simp) _
theorem bytes_of {s:ByteArray} {l:List UInt8} (h:s.data.toList=l):s=⟨l.toArray⟩:=WideShapes.bytes_inj (by rw [h])
theorem eqb_of (s:ByteArray) (l:List UInt8):(s.toList == l)=decide (s.data.toList=l):=by
 rw [ByteArray.toList_eq,Bool.eq_iff_iff]; simp
theorem pre_of (s:ByteArray) (c:UInt8):Lib.hasPrefix s.data.toList [c]=decide (s.data.toList.head?=some c):=by
 cases h:s.data.toList with
 | nil => simp [Lib.hasPrefix]
 | cons d r =>
  by_cases e:c=d
  ·subst e; simp [Lib.hasPrefix]
  ·have e2:(some d:Option UInt8) ≠ some c:=fun g => e (Option.some.inj g).symm
   rw [List.head?_cons,decide_eq_false e2]
   show (c == d && List.isPrefixOf [] r)=false
   rw [beq_eq_false_iff_ne.2 e]; rfl
theorem tail_of (s:ByteArray):(s.extract 1 s.size).data.toList=s.data.toList.tail:=by
 rw [Lib.extract_data,List.drop_one,List.take_of_length_le]
 rw [List.length_tail,len_size]
 omega
theorem head_pos {s:ByteArray} {c:UInt8} (h:s.data.toList.head?=some c):1<=s.size:=by
 cases hd:s.data.toList with
 | nil => rw [hd] at h; simp at h
 | cons a r => rw [← len_size,hd]; simp
theorem pre_any (s p:ByteArray) (w:World):Calls Tryz.prog 15 #[.string s,.string p] w fun e w' => e=.returned (.bool (Lib.hasPrefix s.data.toList p.data.toList))/\w=w' :=
 (Tryz.strings_HasPrefix s p w).mono fun _ _ h => ⟨h.1,h.2.symm⟩
theorem cand_word (s:ByteArray) (w:World) (h:s.data.toList=trueL ∨ s.data.toList=falseL ∨ s.data.toList=[63]) :
  ∃ k n,candF s.data.toList=some (k,n,[])/\Calls Tryz.prog 269 #[.string s] w fun e w' => e=.returned (.tuple #[.agg #[.int .i64 k,.int .i64 n,.string ⟨#[]⟩],.int .i64 0])/\Below w.heap.size w w':=by
 rcases h with h | h | h
 ·rw [h]
  obtain rfl:=bytes_of h
  refine ⟨2,1,rfl,?_⟩
  unfold trueL
  go_enter Tryz.func269,Tryz.ntmps269
  go_wp2_with fail
  refine bodyPost_ret (v:=.tuple #[.agg #[.int .i64 2,.int .i64 1,.string ⟨#[]⟩],.int .i64 0]) (by simp [results,Tryz.results269,go_sem]) rfl ⟨rfl,b_new _ _⟩
 ·rw [h]
  obtain rfl:=bytes_of h
  refine ⟨2,0,rfl,?_⟩
  unfold falseL
  go_enter Tryz.func269,Tryz.ntmps269
  go_wp2_with fail
  refine bodyPost_ret (v:=.tuple #[.agg #[.int .i64 2,.int .i64 0,.string ⟨#[]⟩],.int .i64 0]) (by simp [results,Tryz.results269,go_sem]) rfl ⟨rfl,b_new _ _⟩
 ·rw [h]
  obtain rfl:=bytes_of h
  refine ⟨4,0,rfl,?_⟩
  go_enter Tryz.func269,Tryz.ntmps269
  go_wp2_with fail
  refine bodyPost_ret (v:=.tuple #[.agg #[.int .i64 4,.int .i64 0,.string ⟨#[]⟩],.int .i64 0]) (by simp [results,Tryz.results269,go_sem]) rfl ⟨rfl,b_new _ _⟩
theorem cand_quote (s:ByteArray) (w:World) (hs:s.size<=140737488351232) (h1:s.data.toList ≠ trueL) (h2:s.data.toList ≠ falseL) (h3:s.data.toList ≠ [63]) (h4:s.data.toList.head?=some 34) :
  Calls Tryz.prog 269 #[.string s] w fun e w' => e=.returned (.tuple #[.agg #[.int .i64 3,.int .i64 0,.string ⟨(unq s.data.toList.tail).toArray⟩],.int .i64 0])/\Below w.heap.size w w':=by
 have t1:(s.toList == trueL)=false:=by rw [eqb_of]; exact decide_eq_false h1
 have t2:(s.toList == falseL)=false:=by rw [eqb_of]; exact decide_eq_false h2
 have t3:(s.toList == [63])=false:=by rw [eqb_of]; exact decide_eq_false h3
 unfold trueL at t1
 unfold falseL at t2
 have c1:=fun W => pre_any s ⟨#[34]⟩ W
 have e1:Lib.hasPrefix s.data.toList (ByteArray.mk #[34]).data.toList=true:=by
  show Lib.hasPrefix s.data.toList [34]=true
  rw [pre_of,h4]; rfl
 rw [e1] at c1
 have C1:=Lib.hid c1
 have hpos:=head_pos h4
 have c2:=fun W => unquoted_any (s.extract 1 s.size) W (by simp; omega)
 rw [tail_of] at c2
 obtain ⟨t,ht⟩:∃ t,ByteArray.mk (unq s.data.toList.tail).toArray=t:=⟨_,rfl⟩
 rw [ht] at c2 ⊢
 have C2:=Lib.hid c2
 clear c1 e1 h1 h2 h3 h4 c2 ht
 go_enter Tryz.func269,Tryz.ntmps269
 go_wp2_with fail
 refine (C1.out _).mono ?_; rintro e w1 ⟨rfl,rfl⟩
 go_wp2_with fail
 refine (C2.out _).mono ?_; rintro e w1 ⟨rfl,hb1⟩
 obtain ⟨c1,d1⟩:=bcell hb1
 have hz:w.heap.size < w1.heap.size:=Nat.lt_of_lt_of_le (by simp) hb1.size
 go_wp2_with fail
 refine bodyPost_ret (v:=.tuple #[.agg #[.int .i64 3,.int .i64 0,.string t],.int .i64 0]) (by simp [results,Tryz.results269,go_sem,c1]) rfl ⟨rfl,?_⟩
 exact (((b_then hb1).setCell (by simp) _).setCell (by simp) _).setCell (by simp) _
theorem numbered_any (k:Int) (s:ByteArray) (hs:s.size<=140737488351232):∃ j z m:Int,((m=3/\j=0/\z=0/\numF k s.data.toList=none) ∨ (m=0/\j=k/\numF k s.data.toList=some (k,z,[]))) ∧
  ∀ w:World,Vars w->Calls Tryz.prog 271 #[.int .i64 k,.string s] w fun e w' => e=.returned (.tuple #[.agg #[.int .i64 j,.int .i64 z,.string ⟨#[]⟩],.int .i64 m])/\Below w.heap.size w w':=by
 rcases end_cases (Lib.atoiAll s.data.toList) with ⟨n,ha⟩ | ha | ha
 ·exact ⟨k,n,0,.inr ⟨rfl,rfl,by unfold numF; rw [ha]⟩,fun w _ => numbered_ok k n s w hs ha⟩
 ·exact ⟨0,0,3,.inl ⟨rfl,rfl,rfl,by unfold numF; rw [ha]⟩,fun w hv => numbered_no k s w hs (fun n h => by rw [ha] at h; cases h) hv⟩
 ·exact ⟨0,0,3,.inl ⟨rfl,rfl,rfl,by unfold numF; rw [ha]⟩,fun w hv => numbered_no k s w hs (fun n h => by rw [ha] at h; cases h) hv⟩
theorem cand_number (s:ByteArray) (hs:s.size<=140737488351232) (h1:s.data.toList ≠ trueL) (h2:s.data.toList ≠ falseL) (h3:s.data.toList ≠ [63]) (h4:s.data.toList.head? ≠ some 34) :
  ∃ j z m:Int,((m=3/\j=0/\z=0/\candF s.data.toList=none) ∨ (m=0/\candF s.data.toList=some (j,z,[]))) ∧
  ∀ w:World,Vars w->Calls Tryz.prog 269 #[.string s] w fun e w' => e=.returned (.tuple #[.agg #[.int .i64 j,.int .i64 z,.string ⟨#[]⟩],.int .i64 m])/\Below w.heap.size w w':=by
 have ec:candF s.data.toList=if s.data.toList.head?=some 33 then numF 5 s.data.toList.tail else numF 1 s.data.toList:=by
  unfold candF; rw [if_neg h1,if_neg h2,if_neg h3,if_neg h4]
 have t1:(s.toList == trueL)=false:=by rw [eqb_of]; exact decide_eq_false h1
 have t2:(s.toList == falseL)=false:=by rw [eqb_of]; exact decide_eq_false h2
 have t3:(s.toList == [63])=false:=by rw [eqb_of]; exact decide_eq_false h3
 unfold trueL at t1
 unfold falseL at t2
 have c1:=fun W => pre_any s ⟨#[34]⟩ W
 have e1:Lib.hasPrefix s.data.toList (ByteArray.mk #[34]).data.toList=false:=by
  show Lib.hasPrefix s.data.toList [34]=false
  rw [pre_of]; exact decide_eq_false h4
 rw [e1] at c1
 have C1:=Lib.hid c1
 have c3:=fun W => pre_any s ⟨#[33]⟩ W
 by_cases h5:s.data.toList.head?=some 33
 ·have e3:Lib.hasPrefix s.data.toList (ByteArray.mk #[33]).data.toList=true:=by
   show Lib.hasPrefix s.data.toList [33]=true
   rw [pre_of,h5]; rfl
  rw [e3] at c3
  have C3:=Lib.hid c3
  have hpos:=head_pos h5
  rw [if_pos h5] at ec
  obtain ⟨j,z,m,hjz,hn⟩:=numbered_any 5 (s.extract 1 s.size) (by simp; omega)
  rw [tail_of] at hjz
  refine ⟨j,z,m,?_,fun w hv => ?_⟩
  ·rw [ec]
   rcases hjz with ⟨a,b,c,d⟩ | ⟨a,b,c⟩
   ·exact .inl ⟨a,b,c,d⟩
   ·subst b; exact .inr ⟨a,c⟩
  have HN:=Lib.hid hn
  have HV:=Lib.hid hv
  clear c1 e1 h1 h2 h3 h4 c3 e3 hn hv hjz ec h5
  go_enter Tryz.func269,Tryz.ntmps269
  go_wp2_with fail
  refine (C1.out _).mono ?_; rintro e w1 ⟨rfl,rfl⟩
  go_wp2_with fail
  refine (C3.out _).mono ?_; rintro e w1 ⟨rfl,rfl⟩
  go_wp2_with fail
  refine (HN.out _ (HV.out.below (b_new w _))).mono ?_; rintro e w1 ⟨rfl,hb1⟩
  obtain ⟨c1,d1⟩:=bcell hb1
  have hz:w.heap.size < w1.heap.size:=Nat.lt_of_lt_of_le (by simp) hb1.size
  go_wp2_with fail
  refine bodyPost_ret (v:=.tuple #[.agg #[.int .i64 j,.int .i64 z,.string ⟨#[]⟩],.int .i64 m]) (by simp [results,Tryz.results269,go_sem,c1]) rfl ⟨rfl,?_⟩
  exact (((b_then hb1).setCell (by simp) _).setCell (by simp) _).setCell (by simp) _
 ·have e3:Lib.hasPrefix s.data.toList (ByteArray.mk #[33]).data.toList=false:=by
   show Lib.hasPrefix s.data.toList [33]=false
   rw [pre_of]; exact decide_eq_false h5
  rw [e3] at c3
  have C3:=Lib.hid c3
  rw [if_neg h5] at ec
  obtain ⟨j,z,m,hjz,hn⟩:=numbered_any 1 s hs
  refine ⟨j,z,m,?_,fun w hv => ?_⟩
  ·rw [ec]
   rcases hjz with ⟨a,b,c,d⟩ | ⟨a,b,c⟩
   ·exact .inl ⟨a,b,c,d⟩
   ·subst b; exact .inr ⟨a,c⟩
  have HN:=Lib.hid hn
  have HV:=Lib.hid hv
  clear c1 e1 h1 h2 h3 h4 c3 e3 hn hv hjz ec h5
  go_enter Tryz.func269,Tryz.ntmps269
  go_wp2_with fail
  refine (C1.out _).mono ?_; rintro e w1 ⟨rfl,rfl⟩
  go_wp2_with fail
  refine (C3.out _).mono ?_; rintro e w1 ⟨rfl,rfl⟩
  go_wp2_with fail
  refine (HN.out _ (HV.out.below (b_new w _))).mono ?_; rintro e w1 ⟨rfl,hb1⟩
  obtain ⟨c1,d1⟩:=bcell hb1
  have hz:w.heap.size < w1.heap.size:=Nat.lt_of_lt_of_le (by simp) hb1.size
  go_wp2_with fail
  refine bodyPost_ret (v:=.tuple #[.agg #[.int .i64 j,.int .i64 z,.string ⟨#[]⟩],.int .i64 m]) (by simp [results,Tryz.results269,go_sem,c1]) rfl ⟨rfl,?_⟩
  exact (((b_then hb1).setCell (by simp) _).setCell (by simp) _).setCell (by simp) _
theorem cand_any (s:ByteArray) (hs:s.size<=140737488351232) :
  ∃ (j z m:Int) (t:ByteArray),((m=3/\candF s.data.toList=none) ∨ (m=0/\candF s.data.toList=some (j,z,t.data.toList))) ∧
  ∀ w:World,Vars w->Calls Tryz.prog 269 #[.string s] w fun e w' => e=.returned (.tuple #[.agg #[.int .i64 j,.int .i64 z,.string t],.int .i64 m])/\Below w.heap.size w w':=by
 by_cases h:s.data.toList=trueL ∨ s.data.toList=falseL ∨ s.data.toList=[63]
 ·have w0:World:=default
  obtain ⟨k,n,hc,_⟩:=cand_word s w0 h
  refine ⟨k,n,0,⟨#[]⟩,.inr ⟨rfl,hc⟩,fun w _ => ?_⟩
  obtain ⟨k',n',hc',h'⟩:=cand_word s w h
  rw [hc] at hc'
  simp only [Option.some.injEq,Prod.mk.injEq,and_true] at hc'
  obtain ⟨rfl,rfl⟩:=hc'
  exact h'
 ·have h1:s.data.toList ≠ trueL:=fun g => h (.inl g)
  have h2:s.data.toList ≠ falseL:=fun g => h (.inr (.inl g))
  have h3:s.data.toList ≠ [63]:=fun g => h (.inr (.inr g))
  by_cases h4:s.data.toList.head?=some 34
  ·exact ⟨3,0,0,⟨(unq s.data.toList.tail).toArray⟩,.inr ⟨rfl,by unfold candF; rw [if_neg h1,if_neg h2,if_neg h3,if_pos h4]⟩,fun w _ => cand_quote s w hs h1 h2 h3 h4⟩
  ·obtain ⟨j,z,m,hjz,hn⟩:=cand_number s hs h1 h2 h3 h4
   refine ⟨j,z,m,⟨#[]⟩,?_,hn⟩
   rcases hjz with ⟨a,_,_,d⟩ | ⟨a,c⟩
   ·exact .inl ⟨a,d⟩
   ·exact .inr ⟨a,c⟩
theorem parse_none (s:ByteArray) (w:World) (hc:∃ (j z:Int) (t:ByteArray),∀ w:World,Vars w->Calls Tryz.prog 269 #[.string s] w fun e w' => e=.returned (.tuple #[.agg #[.int .i64 j,.int .i64 z,.string t],.int .i64 3])/\Below w.heap.size w w') (hv:Vars w) :
  Calls Tryz.prog 268 #[.string s] w fun e w' => e=.returned (.tuple #[.agg #[.int .i64 0,.int .i64 0,.string ⟨#[]⟩],.int .i64 3])/\Below w.heap.size w w':=by
 obtain ⟨j,z,t,hc⟩:=hc
 have HC:=Lib.hid hc
 have HV:=Lib.hid hv
 clear hc hv
 go_enter Tryz.func268,Tryz.ntmps268
 go_wp2_with fail
 refine (HC.out _ (HV.out.below (b_new w _))).mono ?_; rintro e w1 ⟨rfl,hb1⟩
 obtain ⟨c1,d1⟩:=bcell hb1
 have hz:w.heap.size < w1.heap.size:=Nat.lt_of_lt_of_le (by simp) hb1.size
 go_wp2_with fail
 refine bodyPost_ret (v:=.tuple #[.agg #[.int .i64 0,.int .i64 0,.string ⟨#[]⟩],.int .i64 3]) (by simp [results,Tryz.results268,go_sem,c1,hz]) rfl ⟨rfl,?_⟩
 exact b_more (b_set3 (b_then hb1) _ (Nat.le_refl _) _ _ _) _
theorem parse_bad (s t:ByteArray) (j z:Int) (w:World) (hc:∀ w:World,Vars w->Calls Tryz.prog 269 #[.string s] w fun e w' => e=.returned (.tuple #[.agg #[.int .i64 j,.int .i64 z,.string t],.int .i64 0])/\Below w.heap.size w w')
  (hv:Vars w) (h:¬ (valE j z t.data.toList=0/\showL j z t.data.toList=s.data.toList)) :
  Calls Tryz.prog 268 #[.string s] w fun e w' => e=.returned (.tuple #[.agg #[.int .i64 0,.int .i64 0,.string ⟨#[]⟩],.int .i64 3])/\Below w.heap.size w w':=by
 obtain ⟨u,q,hs,hd⟩:∃ (u:ByteArray) (q:Int),(∀ W:World,Pow W->Calls Tryz.prog 84 #[.agg #[.int .i64 j,.int .i64 z,.string t]] W fun e w' => e=.returned (.tuple #[.string u,.int .i64 q])/\Below W.heap.size W w')/\(q ≠ 0 ∨ (q=0/\u.data.toList ≠ s.data.toList)):=by
  by_cases g:valE j z t.data.toList=0
  ·refine ⟨_,0,fun W hp => show_good _ _ _ W g hp,.inr ⟨rfl,fun e => h ⟨g,?_⟩⟩⟩
   exact e
  ·exact ⟨_,_,fun W _ => show_bad _ _ _ W g,.inl g⟩
 have HC:=Lib.hid hc
 have HV:=Lib.hid hv
 have HS:=Lib.hid hs
 have hd':(q != 0)=true ∨ ((q != 0)=false/\(u.toList == s.toList)=false/\(u.toList != s.toList)=true):=by
  rcases hd with g | ⟨rfl,g⟩
  ·exact .inl (bne_iff_ne.2 g)
  ·have g2:(u.toList == s.toList)=false:=by rw [ByteArray.toList_eq,ByteArray.toList_eq]; exact beq_eq_false_iff_ne.2 g
   exact .inr ⟨by simp,g2,by unfold bne; rw [g2]; rfl⟩
 clear hc hv hs h hd
 rcases hd' with hq0 | ⟨hq0,hu,hu'⟩
 all_goals
  go_enter Tryz.func268,Tryz.ntmps268
  go_wp2_with fail
  refine (HC.out _ (HV.out.below (b_new w _))).mono ?_; rintro e w1 ⟨rfl,hb1⟩
  have V1:=Lib.hid (HV.out.below (b_then hb1))
  obtain ⟨c1,d1⟩:=bcell hb1
  have hz:w.heap.size < w1.heap.size:=Nat.lt_of_lt_of_le (by simp) hb1.size
  have hz1:=Nat.lt_succ_of_lt hz
  go_wp2_with fail
  refine (HS.out _ (V1.out.below (b_new w1 _)).pow).mono ?_; rintro e w2 ⟨rfl,hb2⟩
  obtain ⟨c2,d2⟩:=bcell hb2
  have hz2:w.heap.size < w2.heap.size:=Nat.lt_of_lt_of_le (by simp; omega) hb2.size
  go_wp2_with fail
  refine bodyPost_ret (v:=.tuple #[.agg #[.int .i64 0,.int .i64 0,.string ⟨#[]⟩],.int .i64 3]) (by simp [results,Tryz.results268,go_sem,c1,c2,hz,hz1]) rfl ⟨rfl,?_⟩
  exact b_set3 (b_trans (b_then hb1) (b_then hb2)) _ (Nat.le_refl _) _ _ _
theorem parse_good (s t:ByteArray) (j z:Int) (w:World) (hc:∀ w:World,Vars w->Calls Tryz.prog 269 #[.string s] w fun e w' => e=.returned (.tuple #[.agg #[.int .i64 j,.int .i64 z,.string t],.int .i64 0])/\Below w.heap.size w w')
  (hv:Vars w) (h:valE j z t.data.toList=0) (hs:showL j z t.data.toList=s.data.toList) :
  Calls Tryz.prog 268 #[.string s] w fun e w' => e=.returned (.tuple #[.agg #[.int .i64 j,.int .i64 z,.string t],.int .i64 0])/\Below w.heap.size w w':=by
 have hsh:∀ W:World,Pow W->Calls Tryz.prog 84 #[.agg #[.int .i64 j,.int .i64 z,.string t]] W fun e w' => e=.returned (.tuple #[.string s,.int .i64 0])/\Below W.heap.size W w':=fun W hp => by
  have:=show_good j z t W h hp
  rw [hs] at this
  exact this
 have HC:=Lib.hid hc
 have HV:=Lib.hid hv
 have HS:=Lib.hid hsh
 clear hc hv hsh h hs
 go_enter Tryz.func268,Tryz.ntmps268
 go_wp2_with fail
 refine (HC.out _ (HV.out.below (b_new w _))).mono ?_; rintro e w1 ⟨rfl,hb1⟩
 have V1:=Lib.hid (HV.out.below (b_then hb1))
 obtain ⟨c1,d1⟩:=bcell hb1
 have hz:w.heap.size < w1.heap.size:=Nat.lt_of_lt_of_le (by simp) hb1.size
 have hz1:=Nat.lt_succ_of_lt hz
 go_wp2_with fail
 refine (HS.out _ (V1.out.below (b_new w1 _)).pow).mono ?_; rintro e w2 ⟨rfl,hb2⟩
 obtain ⟨c2,d2⟩:=bcell hb2
 have hz2:w.heap.size < w2.heap.size:=Nat.lt_of_lt_of_le (by simp; omega) hb2.size
 have hz3:w1.heap.size < w2.heap.size:=Nat.lt_of_lt_of_le (by simp) hb2.size
 go_wp2_with fail
 refine bodyPost_ret (v:=.tuple #[.agg #[.int .i64 j,.int .i64 z,.string t],.int .i64 0]) (by simp [results,Tryz.results268,go_sem,c1,c2,hz,hz1]) rfl ⟨rfl,?_⟩
 exact b_set3 (b_trans (b_then hb1) (b_then hb2)) _ (Nat.le_refl _) _ _ _
theorem parse_any (s:ByteArray) (hs:s.size<=140737488351232) :
  ∃ (j z m:Int) (t:ByteArray),((m=0/\valE j z t.data.toList=0/\showL j z t.data.toList=s.data.toList) ∨ (m=3/\j=0/\z=0/\t=⟨#[]⟩/\∀ k n l,valE k n l=0->showL k n l ≠ s.data.toList)) ∧
  ∀ w:World,Vars w->Calls Tryz.prog 268 #[.string s] w fun e w' => e=.returned (.tuple #[.agg #[.int .i64 j,.int .i64 z,.string t],.int .i64 m])/\Below w.heap.size w w':=by
 obtain ⟨j,z,m,t,hd,hc⟩:=cand_any s hs
 rcases hd with ⟨rfl,hn⟩ | ⟨rfl,hn⟩
 ·refine ⟨0,0,3,⟨#[]⟩,.inr ⟨rfl,rfl,rfl,rfl,fun k n l hv e => ?_⟩,fun w hv => parse_none s w ⟨j,z,t,hc⟩ hv⟩
  rw [← e,cand_show (val_ok hv).1 (val_ok hv).2] at hn
  cases hn
 ·by_cases g:valE j z t.data.toList=0/\showL j z t.data.toList=s.data.toList
  ·exact ⟨j,z,0,t,.inl ⟨rfl,g.1,g.2⟩,fun w hv => parse_good s t j z w hc hv g.1 g.2⟩
  ·refine ⟨0,0,3,⟨#[]⟩,.inr ⟨rfl,rfl,rfl,rfl,fun k n l hv e => ?_⟩,fun w hv => parse_bad s t j z w hc hv g⟩
   have hh:=cand_show (val_ok hv).1 (val_ok hv).2
   rw [e,hn] at hh
   simp only [Option.some.injEq,Prod.mk.injEq] at hh
   obtain ⟨rfl,rfl,rfl⟩:=hh
   exact g ⟨hv,e⟩
end Parse
namespace PsLf
open Go.RowKit
open LexM ExM Kit ExL ExP PsM PsT NmC Ps PsR PsLx LexB
set_option linter.unusedVariables false
set_option maxHeartbeats 2000000 in
theorem leaf_true (p vk nn:Int) (u t:ByteArray) (hu:(u.toList == [116,114,117,101])=true) (w:World)
  (hP:∀ W,Below w.heap.size w W->Calls Tryz.prog 268 #[.string u] W fun e w' => e=.returned (.tuple #[.agg #[.int .i64 2,.int .i64 1,.string ⟨#[]⟩],.int .i64 0])/\Below W.heap.size W w') :
  Calls Tryz.prog 266 #[.agg #[.int .i64 2,.int .i64 p,.string u,.int .i64 vk,.int .i64 nn,.string t]] w fun e w' => e=.returned (.tuple #[.agg #[.int .i64 1,.int .i64 2,.int .i64 1,.string ⟨#[]⟩,.string ⟨#[]⟩,.slice none 0 0],.bool true])/\Below w.heap.size w w':=by
 have HP:=Lib.hid hP
 clear hP
 go_enter Tryz.func266,Tryz.ntmps266
 go_wp2_with fail
 obtain ⟨W,hW⟩:∃ W,((w.alloc (.cells #[.int .i64 2,.int .i64 p,.string u,.int .i64 vk,.int .i64 nn,.string t] 168)).alloc (.cells #[.int .i64 0,.int .i64 0,.int .i64 0,.string ⟨#[]⟩,.string ⟨#[]⟩,.slice none 0 0] 50))=W:=⟨_,rfl⟩
 have hb:Below w.heap.size w W:=by rw [← hW]; exact b_more (b_new _ _) _
 have hs:W.heap.size=w.heap.size + 2:=by rw [← hW]; simp
 have h1:W.heap[w.heap.size + 1]?=some (.cells #[.int .i64 0,.int .i64 0,.int .i64 0,.string ⟨#[]⟩,.string ⟨#[]⟩,.slice none 0 0] 50 (0,0)):=by
  rw [← hW]; have:=World.alloc_heap_new (w.alloc (.cells #[.int .i64 2,.int .i64 p,.string u,.int .i64 vk,.int .i64 nn,.string t] 168)) (.cells #[.int .i64 0,.int .i64 0,.int .i64 0,.string ⟨#[]⟩,.string ⟨#[]⟩,.slice none 0 0] 50 (0,0)); simpa using this
 rw [hW]
 clear hW
 refine (HP.out W hb).mono ?_
 rintro e w2 ⟨rfl,hb2⟩
 have k1:=(hb2.block _ (by omega)).trans h1
 obtain ⟨c1,f1⟩:=cells_of k1
 have l1:=(Array.getElem?_eq_some_iff.1 k1).1
 have HB:=Lib.hid (hb.trans (hb2.mono hb.size))
 clear hb hb2 k1 h1 hs HP
 go_wp2_with fail
 refine bodyPost_ret (v:=.tuple #[.agg #[.int .i64 1,.int .i64 2,.int .i64 1,.string ⟨#[]⟩,.string ⟨#[]⟩,.slice none 0 0],.bool true]) (by simp [results,Tryz.results266,go_sem,c1,l1]) rfl ⟨rfl,?_⟩
 exact b_more ((((((HB.out.setCell (p:=⟨w.heap.size + 1,0,none⟩) (Nat.le_succ _) _).setCell (p:=⟨w.heap.size + 1,1,none⟩) (Nat.le_succ _) _).setCell (p:=⟨w.heap.size + 1,2,none⟩) (Nat.le_succ _) _).setCell (p:=⟨w.heap.size + 1,3,none⟩) (Nat.le_succ _) _).setCell (p:=⟨w.heap.size + 1,4,none⟩) (Nat.le_succ _) _).setCell (p:=⟨w.heap.size + 1,5,none⟩) (Nat.le_succ _) _) _
set_option maxHeartbeats 2000000 in
theorem leaf_false (p vk nn:Int) (u t:ByteArray) (hu:(u.toList == [116,114,117,101])=false) (hv:(u.toList == [102,97,108,115,101])=true) (w:World)
  (hP:∀ W,Below w.heap.size w W->Calls Tryz.prog 268 #[.string u] W fun e w' => e=.returned (.tuple #[.agg #[.int .i64 2,.int .i64 0,.string ⟨#[]⟩],.int .i64 0])/\Below W.heap.size W w') :
  Calls Tryz.prog 266 #[.agg #[.int .i64 2,.int .i64 p,.string u,.int .i64 vk,.int .i64 nn,.string t]] w fun e w' => e=.returned (.tuple #[.agg #[.int .i64 1,.int .i64 2,.int .i64 0,.string ⟨#[]⟩,.string ⟨#[]⟩,.slice none 0 0],.bool true])/\Below w.heap.size w w':=by
 have HP:=Lib.hid hP
 clear hP
 go_enter Tryz.func266,Tryz.ntmps266
 go_wp2_with fail
 obtain ⟨W,hW⟩:∃ W,((w.alloc (.cells #[.int .i64 2,.int .i64 p,.string u,.int .i64 vk,.int .i64 nn,.string t] 168)).alloc (.cells #[.int .i64 0,.int .i64 0,.int .i64 0,.string ⟨#[]⟩,.string ⟨#[]⟩,.slice none 0 0] 50))=W:=⟨_,rfl⟩
 have hb:Below w.heap.size w W:=by rw [← hW]; exact b_more (b_new _ _) _
 have hs:W.heap.size=w.heap.size + 2:=by rw [← hW]; simp
 have h1:W.heap[w.heap.size + 1]?=some (.cells #[.int .i64 0,.int .i64 0,.int .i64 0,.string ⟨#[]⟩,.string ⟨#[]⟩,.slice none 0 0] 50 (0,0)):=by
  rw [← hW]; have:=World.alloc_heap_new (w.alloc (.cells #[.int .i64 2,.int .i64 p,.string u,.int .i64 vk,.int .i64 nn,.string t] 168)) (.cells #[.int .i64 0,.int .i64 0,.int .i64 0,.string ⟨#[]⟩,.string ⟨#[]⟩,.slice none 0 0] 50 (0,0)); simpa using this
 rw [hW]
 clear hW
 refine (HP.out W hb).mono ?_
 rintro e w2 ⟨rfl,hb2⟩
 have k1:=(hb2.block _ (by omega)).trans h1
 obtain ⟨c1,f1⟩:=cells_of k1
 have l1:=(Array.getElem?_eq_some_iff.1 k1).1
 have HB:=Lib.hid (hb.trans (hb2.mono hb.size))
 clear hb hb2 k1 h1 hs HP
 go_wp2_with fail
 refine bodyPost_ret (v:=.tuple #[.agg #[.int .i64 1,.int .i64 2,.int .i64 0,.string ⟨#[]⟩,.string ⟨#[]⟩,.slice none 0 0],.bool true]) (by simp [results,Tryz.results266,go_sem,c1,l1]) rfl ⟨rfl,?_⟩
 exact b_more ((((((HB.out.setCell (p:=⟨w.heap.size + 1,0,none⟩) (Nat.le_succ _) _).setCell (p:=⟨w.heap.size + 1,1,none⟩) (Nat.le_succ _) _).setCell (p:=⟨w.heap.size + 1,2,none⟩) (Nat.le_succ _) _).setCell (p:=⟨w.heap.size + 1,3,none⟩) (Nat.le_succ _) _).setCell (p:=⟨w.heap.size + 1,4,none⟩) (Nat.le_succ _) _).setCell (p:=⟨w.heap.size + 1,5,none⟩) (Nat.le_succ _) _) _
theorem parse_bool (s:ByteArray) (z:Int) (hz:z=0 ∨ z=1) (hs:s.data.toList=ShowM.showL 2 z []) (w:World) (hv:Parse.Vars w) :
  Calls Tryz.prog 268 #[.string s] w fun e w' => e=.returned (.tuple #[.agg #[.int .i64 2,.int .i64 z,.string ⟨#[]⟩],.int .i64 0])/\Below w.heap.size w w':=by
 have hval:ValM.valE 2 z []=0/\ValM.numE 2 z=0/\ValM.strE 2 []=0:=by rcases hz with rfl | rfl <;> decide
 have hlen:s.size<=140737488351232:=by
  have:s.size=(ShowM.showL 2 z []).length:=by rw [← hs]; rfl
  rw [this]; rcases hz with rfl | rfl <;> decide
 obtain ⟨j,y,m,t,h,hc⟩:=Parse.parse_any s hlen
 rcases h with ⟨rfl,h1,h2⟩ | ⟨rfl,_,_,_,h⟩
 ·have e1:=ParseM.cand_show (Show.val_ok h1).1 (Show.val_ok h1).2
  have e2:=ParseM.cand_show hval.2.1 hval.2.2
  rw [h2,hs,e2] at e1
  simp only [Option.some.injEq,Prod.mk.injEq] at e1
  obtain ⟨rfl,rfl,e3⟩:=e1
  have ht:t=⟨#[]⟩:=by
   cases t with
   | mk d => cases d with | mk l => simp at e3; subst e3; rfl
  subst ht
  exact hc w hv
 ·exact absurd hs.symm (h 2 z [] hval.1)
theorem leaf_any (t:Tk) (ht:Kd t) (w:World) (hv:Parse.Vars w):Calls Tryz.prog 266 #[tkV t] w (LeafOut t w):=by
 have eT:=eqb_of ⟨t.s.toArray⟩ [116,114,117,101]
 have eF:=eqb_of ⟨t.s.toArray⟩ [102,97,108,115,101]
 have es:(⟨t.s.toArray⟩:ByteArray).data.toList=t.s:=rfl
 rw [es] at eT eF
 unfold tkV LeafOut
 by_cases hk:t.kind=1 ∨ t.kind=3
 ·refine (leaf_const t.kind t.pos t.vk t.n ⟨t.s.toArray⟩ ⟨t.t.toArray⟩ hk w).mono ?_
  rintro e w' ⟨rfl,hb⟩
  exact ⟨.inl ⟨_,by unfold leafN; rw [if_pos hk],rfl⟩,hb⟩
 by_cases h2:t.kind=2
 ·by_cases g1:t.s=trueB
  ·have:=leaf_true t.pos t.vk t.n ⟨t.s.toArray⟩ ⟨t.t.toArray⟩ (by rw [eT]; exact decide_eq_true g1) w (fun W hb => parse_bool _ 1 (.inr rfl) (by rw [show_true]; exact g1) W (hv.below hb))
   rw [h2]
   refine this.mono ?_
   rintro e w' ⟨rfl,hb⟩
   exact ⟨.inl ⟨_,by unfold leafN; rw [if_neg hk,if_pos g1],rfl⟩,hb⟩
  by_cases g2:t.s=falseB
  ·have:=leaf_false t.pos t.vk t.n ⟨t.s.toArray⟩ ⟨t.t.toArray⟩ (by rw [eT]; exact decide_eq_false g1) (by rw [eF]; exact decide_eq_true g2) w (fun W hb => parse_bool _ 0 (.inl rfl) (by rw [show_false]; exact g2) W (hv.below hb))
   rw [h2]
   refine this.mono ?_
   rintro e w' ⟨rfl,hb⟩
   exact ⟨.inl ⟨_,by unfold leafN; rw [if_neg hk,if_neg g1,if_pos g2],rfl⟩,hb⟩
  have kk:=fun W => key_any ⟨t.s.toArray⟩ W
  cases hkey:keyB t.s with
  | false =>
   have:=leaf_name t.pos t.vk t.n ⟨t.s.toArray⟩ ⟨t.t.toArray⟩ (by rw [eT]; exact decide_eq_false g1) (by rw [eF]; exact decide_eq_false g2) w (fun W => (kk W).mono (fun e w' h => ⟨by rw [h.1,es,hkey],h.2⟩))
   rw [h2]
   refine this.mono ?_
   rintro e w' ⟨rfl,hb⟩
   exact ⟨.inl ⟨_,by unfold leafN; rw [if_neg hk,if_neg g1,if_neg g2,if_pos ⟨h2,hkey⟩],rfl⟩,hb⟩
  | true =>
   have:=leaf_key t.pos t.vk t.n ⟨t.s.toArray⟩ ⟨t.t.toArray⟩ (by rw [eT]; exact decide_eq_false g1) (by rw [eF]; exact decide_eq_false g2) w (fun W => (kk W).mono (fun e w' h => ⟨by rw [h.1,es,hkey],h.2⟩))
   rw [h2]
   refine this.mono ?_
   rintro e w' ⟨rfl,hb⟩
   exact ⟨.inr ⟨by unfold leafN; rw [if_neg hk,if_neg g1,if_neg g2,if_neg (by rw [hkey]; simp)],rfl⟩,hb⟩
 ·rcases ht with h | h | h | ⟨h,g1,g2⟩
  ·exact absurd (.inl h) hk
  ·exact absurd (.inr h) hk
  ·exact absurd h h2
  refine (leaf_none t.kind t.pos t.vk t.n ⟨t.s.toArray⟩ ⟨t.t.toArray⟩ (fun e => hk (.inl e)) h2 (fun e => hk (.inr e)) (by rw [eT]; exact decide_eq_false g1) (by rw [eF]; exact decide_eq_false g2) w).mono ?_
  rintro e w' ⟨rfl,hb⟩
  exact ⟨.inr ⟨by unfold leafN; rw [if_neg hk,if_neg g1,if_neg g2,if_neg (fun e => h2 e.1)],rfl⟩,hb⟩
end PsLf
end Go.Proofs.YtdefaeieiaegaaaGreatDoor
