/- TxNames PsTok Ps PsRun: what these laws name of them. -/
import Derived.Deep.AppendLies
import Derived.Deep.RegionHeld3
import Derived.Deep.DeepCutAuto
import Derived.IntWalk
import Derived.RangeFuncNested
import Derived.RangeFuncBound
import Derived.RangeFuncCalls
import Derived.RangeFuncLeaves
import Derived.Shelf.Abstract
import Derived.Shelf.RegionOpen
import Derived.WalkKit
import Derived.OwnWalkIn
import Derived.TacticsInMore
import Derived.LoopNIn
import Derived.LoopIn
import Derived.Deep.QuietTactic
import Derived.Deep.RegionWith
import Derived.ChangeOld
import Derived.Deep.DrawnRows
import Derived.LaidMore
import Derived.BigQuiet
import Derived.RangeFuncBox
import Derived.Test.YtdefaeieiaegaaaGreatDoorProg
import Derived.ProofKit
import Derived.Lib.Hide
import Derived.Outline
import Derived.Below
import Derived.WalkSpells
import Derived.WalkLawsBesides
import Derived.Laws.OwnMore
import Derived.OwnWalk
import Derived.ChangeAlike
import GoSem.Claim
import Derived.Lib.Bytealg
import Derived.Lib.Small
import Derived.Lib.AtoiAll
import Derived.Deep.Draws
import Derived.LaidLaws
import Derived.ChangeArms
import Derived.Lib.LaidTab
import Derived.WideShapes
import Derived.Test.YtdefaeieiaegaaaGreatDoorChecked
import Derived.WalkSmall
import Derived.Deep.RegionLaw
import Derived.RegionTactic
import Derived.BigRegion
import Derived.Laws.Pointers
import Derived.Lib.ConvBytes
import Derived.Lib.AtoiErrMem
import Derived.Laws.IdiomStrings
import Derived.Deep.LoopGhost
import Derived.Lib.UnsafeStr
import Derived.Lib.ItoaNum
import Derived.Lib.AtoiTie
import Derived.Lib.ItoaMem
import Derived.Lib.AppendIntMem
import Derived.Lib.ItoaLen
import Derived.Shelf.Strings.Builder1
import Derived.Shelf.Strings.Builder2
import Derived.Shelf.Strings.OnBuilder
import Derived.Shelf.Small.Bits
import Derived.Shelf.Small.Wraps
import Derived.Shelf.Strings.BuilderF
import Derived.Shelf.Strings.BuilderK
import Derived.Shelf.Strconv.Atoi
import Derived.Shelf.Strconv.Itoa0
import Derived.Shelf.Strconv.Itoa1
import Derived.Shelf.LaysM
import Derived.Shelf.Strconv.Itoa2
import Derived.Shelf.Strconv.Itoa3
import Derived.Shelf.Strconv.AtoiErrFast
import Derived.Shelf.Strconv.ParseIntEmpty
import Derived.Shelf.Strconv.AtoiFail
import Derived.Shelf.Strconv.Clone
import Derived.Shelf.Strconv.SyntaxError
import Derived.Shelf.LaysC
import Derived.Shelf.Strconv.ToError
import Derived.Shelf.Strconv.Lower
import Derived.Shelf.Strconv.ParseUint10
import Derived.Shelf.Strconv.ParseUint10Empty
import Derived.Shelf.Strconv.ParseUint10Any
import Derived.Shelf.Strconv.ParseInt10
import Derived.Shelf.Strconv.AtoiLong
import Derived.Shelf.Strconv.AtoiInnerAll
import Derived.Shelf.Strconv.RangeError
import Derived.Shelf.Strconv.ToErrorRange
import Derived.Shelf.Strconv.AtoiAll
import Derived.Shelf.Strconv.ErrVarAll
import Derived.Shelf.Strings.Search1
import Derived.Shelf.Strings.Search2
import Derived.Shelf.Strings.Search3
import Derived.Shelf.Strings.Cut
import Derived.Shelf.Strings.Count
import Derived.Shelf.Strings.Shaped
import Derived.Shelf.Strings.Prefix
import Derived.Shelf.Strings.Split
import Derived.Shelf.Bits.Mul64
import Derived.Shelf.Unicode.DecodeSlow
import Derived.Shelf.Slices.Turned
import Derived.Shelf.Slices.Equal
import Derived.Ground.Names2Prog
import Derived.Shelf.Slices.Clone
import Derived.Shelf.Slices.Empties2
import Derived.Ground.SlgfProg
import Derived.Shelf.SlicesE.IndexFunc
import Derived.Ground.SlgmProg
import Derived.Shelf.SortM.Plain
import Derived.Shelf.SortM.SortNone
import Derived.Deep.CutBlock
import Derived.Lib.IndexMore
import Derived.Lib.Split
import Derived.Lib.Strings
import Derived.Lib.ReplaceLaws
import Derived.Lib.CountLaws
import Derived.Maps.Own
import Derived.Maps.OwnSet
import Derived.Maps.AppendAt
import Derived.Maps.Range
import Derived.Maps.RangeWalk
import Derived.Laws.AppendOwnNone
import Derived.Sort.EncStr
import Derived.StringKeys
import Derived.Lib.SplitLaws
import Derived.Laws.CopyOwn
import Derived.RangeFuncRecord
import Derived.Calls
import Derived.Orders
import Derived.OrdersHeld
import Derived.RangeFuncWrites
import Derived.Maps.OwnIn
import Derived.Shelf.SlIter.Nil
import Derived.Ground.GgzProg
import Derived.RegionDies
import Derived.Test.YtdefaeieiaegaaaGreatDoorKtE01
import Derived.Test.YtdefaeieiaegaaaGreatDoorKtE03
import Derived.Test.YtdefaeieiaegaaaGreatDoorKtE06
import Derived.Test.YtdefaeieiaegaaaGreatDoorKtE08
import Derived.Test.YtdefaeieiaegaaaGreatDoorKtE13
namespace Go.Proofs.YtdefaeieiaegaaaGreatDoor
set_option linter.unusedVariables false
namespace TxN
open Go.RowKit
open ValM LexM NumM ExM NmM ShowM PrM Kit ExL ExP ExN RawV Within RawL GenL FldP FldR FldC FrmM NmA PgM PgA ShT TxM TxR TxP TxT Prn TxQ TxW
set_option linter.unusedVariables false
def Mx (w:World):Prop:=∃ m,w.cell? ⟨3,0,none⟩=some (.int .i64 m)
theorem Mx.below {w w':World} (h:Mx w) (hb:Below w.heap.size w w'):Mx w':=by
 obtain ⟨m,hm⟩:=h
 exact ⟨m,(hb.cell (p:=⟨3,0,none⟩) (cell_lt' hm)).trans hm⟩
theorem cut_none {s sep:ByteArray} {w:World} (hs:s.size<=2000000) (hm:Mx w) (hp:sep.data.toList ≠ []) (h:cutO s.data.toList sep.data.toList=none) :
  Calls Tryz.prog 108 #[.string s,.string sep] w fun e w' => e=.returned (.tuple #[.string s,.string ⟨#[]⟩,.bool false])/\∃ n,w'=w.drewN n:=by
 obtain ⟨m,hm⟩:=hm
 have:=Tryz.strings_Cut s sep m w (by omega) hm
 rw [cut_lib _ _ hp,h] at this
 simpa only [Lib.mk_data] using this
theorem cut_some {s sep a r:ByteArray} {w:World} (hs:s.size<=2000000) (hm:Mx w) (hp:sep.data.toList ≠ []) (h:cutO s.data.toList sep.data.toList=some (a.data.toList,r.data.toList)) :
  Calls Tryz.prog 108 #[.string s,.string sep] w fun e w' => e=.returned (.tuple #[.string a,.string r,.bool true])/\∃ n,w'=w.drewN n:=by
 obtain ⟨m,hm⟩:=hm
 have:=Tryz.strings_Cut s sep m w (by omega) hm
 rw [cut_lib _ _ hp,h] at this
 simpa only [Lib.mk_data] using this
theorem cut_cases (s sep:ByteArray) (hp:sep.data.toList ≠ []):cutO s.data.toList sep.data.toList=none ∨ ∃ a r:ByteArray,cutO s.data.toList sep.data.toList=some (a.data.toList,r.data.toList)/\r.size < s.size/\a.size<=s.size:=by
 cases h:cutO s.data.toList sep.data.toList with
 | none => exact .inl rfl
 | some q =>
  obtain ⟨a,r⟩:=q
  obtain ⟨h1,h2⟩:=cut_join hp h
  refine .inr ⟨⟨a.toArray⟩,⟨r.toArray⟩,rfl,h2,?_⟩
  show a.length<=s.data.toList.length
  rw [h1,List.length_append]; omega
theorem new_cell (w:World) (v:Value) (t:TypeId):(w.alloc (.cells #[v] t)).cell? ⟨w.heap.size,0,none⟩=some v:=by
 unfold World.cell?
 rw [World.alloc_heap_new]
 rfl
def NmI (s r:List UInt8) (done:List ByteArray) (b:Bool):Prop :=
 if b=true then s ≠ []/\Lib.split s cmW=(done.map fun t => t.data.toList) ++ Lib.split r cmW/\(∀ t ∈ done,nmB t.data.toList=true) else namesR s=some (done.map fun t => t.data.toList)
theorem nmI_start (s:List UInt8):NmI s s [] (decide (s ≠ [])):=by
 unfold NmI
 by_cases h:s=[]
 ·rw [if_neg (by simp [h])]
  unfold namesR; rw [if_pos h]; rfl
 ·rw [if_pos (by simp [h])]
  exact ⟨h,rfl,fun t ht => by cases ht⟩
theorem nmI_bad {s r a:List UInt8} {done:List ByteArray} {q:List (List UInt8)} (h:NmI s r done true) (he:Lib.split r cmW=a :: q) (hb:nmB a ≠ true):namesR s=none:=by
 obtain ⟨h1,h2,h3⟩:=h
 unfold namesR
 rw [if_neg h1,if_neg (fun hall => ?_)]
 rw [h2,he] at hall
 have:=List.all_eq_true.1 hall a (by simp)
 exact hb this
theorem nmI_last {s r:List UInt8} {a:ByteArray} {done:List ByteArray} (h:NmI s r done true) (he:Lib.split r cmW=[a.data.toList]) (hb:nmB a.data.toList=true) (r':List UInt8):NmI s r' (done ++ [a]) false:=by
 obtain ⟨h1,h2,h3⟩:=h
 unfold NmI namesR
 rw [if_neg (by decide),if_neg h1,if_pos]
 ·rw [h2,he]; simp
 ·rw [h2,he]
  refine List.all_eq_true.2 fun t ht => ?_
  rcases List.mem_append.1 ht with ht | ht
  ·obtain ⟨u,hu,rfl⟩:=List.mem_map.1 ht
   exact h3 u hu
  ·simp at ht; rw [ht]; exact hb
theorem nmI_more {s r r':List UInt8} {a:ByteArray} {done:List ByteArray} (h:NmI s r done true) (he:Lib.split r cmW=a.data.toList :: Lib.split r' cmW) (hb:nmB a.data.toList=true):NmI s r' (done ++ [a]) true:=by
 obtain ⟨h1,h2,h3⟩:=h
 unfold NmI
 rw [if_pos rfl]
 refine ⟨h1,by rw [h2,he]; simp,fun t ht => ?_⟩
 rcases List.mem_append.1 ht with ht | ht
 ·exact h3 t ht
 ·simp at ht; rw [ht]; exact hb
theorem nm_zero {l:List UInt8}:nmB l=true ↔ LexB.nameE l=0:=by rw [nmB_iff,decide_eq_true_eq]
def NamesOut (s:ByteArray) (w:World) (e:Ending) (w':World):Prop :=
 (namesR s.data.toList=none/\e=.returned (.tuple #[.slice none 0 0,.bool false]) ∨ ∃ v L,namesR s.data.toList=some (L.map fun t => t.data.toList)/\e=.returned (.tuple #[v,.bool true])/\w'.ownsRow w.heap.size 9 1 v L.length (strV L)/\L.length<=s.size + 1)/\Below w.heap.size w w'
set_option maxRecDepth 100000 in
set_option maxHeartbeats 8000000 in
theorem readNames_any (s:ByteArray) (w:World) (hs:s.size<=2000000) (hm:Mx w):Calls Tryz.prog 109 #[.string s] w (NamesOut s w):=by
 obtain ⟨i0,hi,hz0,hz1,hz2⟩:=info_parts GenL.infoStr
 have hst:=nmI_start s.data.toList
 obtain ⟨b0,hb0⟩:∃ b,decide (s.data.toList ≠ [])=b:=⟨_,rfl⟩
 rw [hb0] at hst
 have t0:(!s.toList.isEmpty)=b0:=by
  rw [← hb0]
  by_cases h:s=⟨#[]⟩
  ·rw [empty_t h,h]; rfl
  ·rw [empty_n h]
   have:s.data.toList ≠ []:=fun e => h (bytes_eq e)
   simp [this]
 have HM:=Lib.hid hm
 have HSt:=Lib.hid hst
 clear hm hst hb0
 go_enter Tryz.func109,Tryz.ntmps109
 go_wp2_with fail
 go_loopw [0,4,5,6] (fun lst v mo nm wr => ∃ (r:ByteArray) (done:List ByteArray) (b:Bool) (u:Value),lst=.string r/\u=v/\mo=.bool b/\NmI s.data.toList r.data.toList done b/\r.size<=s.size/\(b=true->done.length + r.size<=s.size)/\done.length<=s.size + 1/\wr.ownsRow w.heap.size 9 1 u done.length (strV done)/\Below w.heap.size w wr) (fun lst _ mo _ _ => match lst,mo with | .string r,.bool true => r.size + 1 | _,_ => 0)
 case atStart => exact ⟨s,[],b0,_,rfl,rfl,rfl,HSt.out,Nat.le_refl _,by simp,by simp,World.ownsRow_nil _ _ _ _,Below.refl _ _⟩
 case round =>
  obtain ⟨r,done,b,u,rfl,rfl,rfl,hI,hrs,hdl,hdl2,hown,hbw⟩:=hrel
  obtain ⟨wa,rfl⟩:∃ V,V=wr:=⟨_,rfl⟩
  have HI:=Lib.hid hI
  have HRs:=Lib.hid hrs
  have HDl:=Lib.hid hdl
  have HDl2:=Lib.hid hdl2
  have HOwn:=Lib.hid hown
  have HB:=Lib.hid hbw
  have HMa:=Lib.hid (HM.out.below hbw)
  clear hI hrs hdl hdl2 hown hbw
  cases b with
  | false =>
   go_wp2_with fail
   go_ret2
   exact ⟨.inr ⟨_,done,HI.out,rfl,HOwn.out,HDl2.out⟩,HB.out⟩
  | true =>
   rcases cut_cases r ⟨#[44,32]⟩ (by decide) with hc | ⟨a,q,hc,hlt,hal⟩
   ·have hsp:Lib.split r.data.toList cmW=[r.data.toList]:=by rw [split_cut _ _ (by decide)]; show (match cutO r.data.toList (⟨#[44,32]⟩:ByteArray).data.toList with | none => _ | some (a,r) => _)=_; rw [hc]
    have hcut:=cut_none (sep:=⟨#[44,32]⟩) (w:=wa) (by have:=HRs.out; omega) HMa.out (by decide) hc
    have hname:=fun V => LexB.name_any r V (by have:=HRs.out; omega)
    have HCut:=Lib.hid hcut
    by_cases hn:LexB.nameE r.data.toList=0
    ·rw [hn] at hname
     have HName:=Lib.hid hname
     have HN:=Lib.hid (nmI_last HI.out hsp (nm_zero.2 hn))
     clear hcut hname hn hc hsp
     go_wp2_with fail
     refine HCut.out.mono ?_; rintro e w1 ⟨rfl,n,rfl⟩
     go_wp2_with fail
     refine (HName.out _).mono ?_; rintro e w2 ⟨rfl,rfl⟩
     have hown:=(own_below HOwn.out (b_drewN (Below.refl wa.heap.size wa) n)).alloc (.cells #[.string r] 9)
     have hz9:w.heap.size<=wa.heap.size:=HB.out.size
     have hds:=HDl2.out
     have hss:=hs
     go_wp2_with (at_builtin; refine wpList_append_own _ rfl _ _ 38 rfl w.heap.size 9 i0 (.string ⟨#[]⟩) 1 16 Tryz.underlying38 hi hz0 hz1 hz2 rfl (by decide) _ _ _ rfl hown ⟨(wa.drewN n).heap.size,0,none⟩ 1 1 [.string r] rfl rfl ?c1 ?c2 ?c3 ?c4 ?c5 ?_)
     case c1 =>
      intro j y hj
      match j,hj with
      | 0,hj => simp at hj; subst hj; show ((wa.drewN n).alloc _).cell? ⟨(wa.drewN n).heap.size,0,none⟩=_; exact new_cell _ _ _
      | j + 1,hj => simp at hj
     case c2 => intro y hy; simp at hy; subst hy; rfl
     case c3 => unfold maxLen; omega
     case c4 => omega
     case c5 => simp; omega
     intro v' w3 hown3 hgrow _
     have hB3:Below w.heap.size w w3:=((b_drewN HB.out n).alloc hz9 _).grown hgrow (by have:=hz9; simp; omega) (fun g hg => (HOwn.out.lt g hg).1)
     have HOwn3:=Lib.hid hown3
     have HB3:=Lib.hid hB3
     clear hown3 hgrow hB3 hown
     go_wp2
     go_roundw
     case rel => exact ⟨⟨#[]⟩,done ++ [r],false,_,rfl,rfl,rfl,HN.out _,Nat.zero_le _,fun h => (by cases h),(by have:=HDl.out (by first | rfl | trivial); simp; omega),by rw [List.length_append,ShL.strV_snoc]; exact HOwn3.out,HB3.out⟩
     case measure => simp
    ·have t1:(LexB.nameE r.data.toList != 0)=true:=bne_iff_ne.2 hn
     generalize hE:LexB.nameE r.data.toList=E at *
     have HName:=Lib.hid hname
     have HN:=Lib.hid (nmI_bad HI.out hsp (fun h => hn (hE ▸ nm_zero.1 h)))
     clear hcut hname hn hc hsp hE
     go_wp2_with fail
     refine HCut.out.mono ?_; rintro e w1 ⟨rfl,n,rfl⟩
     go_wp2_with fail
     refine (HName.out _).mono ?_; rintro e w2 ⟨rfl,rfl⟩
     go_wp2_with fail
     go_ret2
     exact ⟨.inl ⟨HN.out,rfl⟩,b_drewN HB.out n⟩
   ·have hsp:Lib.split r.data.toList cmW=a.data.toList :: Lib.split q.data.toList cmW:=by rw [split_cut _ _ (by decide)]; show (match cutO r.data.toList (⟨#[44,32]⟩:ByteArray).data.toList with | none => _ | some (a,r) => _)=_; rw [hc]
    have hcut:=cut_some (sep:=⟨#[44,32]⟩) (w:=wa) (by have:=HRs.out; omega) HMa.out (by decide) hc
    have hname:=fun V => LexB.name_any a V (by have:=HRs.out; omega)
    have HCut:=Lib.hid hcut
    have HLt:=Lib.hid hlt
    by_cases hn:LexB.nameE a.data.toList=0
    ·rw [hn] at hname
     have HName:=Lib.hid hname
     have HN:=Lib.hid (nmI_more HI.out hsp (nm_zero.2 hn))
     clear hcut hname hn hc hsp hlt
     go_wp2_with fail
     refine HCut.out.mono ?_; rintro e w1 ⟨rfl,n,rfl⟩
     go_wp2_with fail
     refine (HName.out _).mono ?_; rintro e w2 ⟨rfl,rfl⟩
     have hown:=(own_below HOwn.out (b_drewN (Below.refl wa.heap.size wa) n)).alloc (.cells #[.string a] 9)
     have hz9:w.heap.size<=wa.heap.size:=HB.out.size
     have hds:=HDl2.out
     have hss:=hs
     go_wp2_with (at_builtin; refine wpList_append_own _ rfl _ _ 38 rfl w.heap.size 9 i0 (.string ⟨#[]⟩) 1 16 Tryz.underlying38 hi hz0 hz1 hz2 rfl (by decide) _ _ _ rfl hown ⟨(wa.drewN n).heap.size,0,none⟩ 1 1 [.string a] rfl rfl ?c1 ?c2 ?c3 ?c4 ?c5 ?_)
     case c1 =>
      intro j y hj
      match j,hj with
      | 0,hj => simp at hj; subst hj; show ((wa.drewN n).alloc _).cell? ⟨(wa.drewN n).heap.size,0,none⟩=_; exact new_cell _ _ _
      | j + 1,hj => simp at hj
     case c2 => intro y hy; simp at hy; subst hy; rfl
     case c3 => unfold maxLen; omega
     case c4 => omega
     case c5 => simp; omega
     intro v' w3 hown3 hgrow _
     have hB3:Below w.heap.size w w3:=((b_drewN HB.out n).alloc hz9 _).grown hgrow (by have:=hz9; simp; omega) (fun g hg => (HOwn.out.lt g hg).1)
     have HOwn3:=Lib.hid hown3
     have HB3:=Lib.hid hB3
     clear hown3 hgrow hB3 hown
     go_wp2
     go_roundw
     case rel => exact ⟨q,done ++ [a],true,_,rfl,rfl,rfl,HN.out,by have:=HRs.out; have:=HLt.out; omega,fun _ => (by have:=HDl.out (by first | rfl | trivial); have:=HLt.out; simp; omega),(by have:=HDl.out (by first | rfl | trivial); simp; omega),by rw [List.length_append,ShL.strV_snoc]; exact HOwn3.out,HB3.out⟩
     case measure => have:=HLt.out; simp; omega
    ·have t1:(LexB.nameE a.data.toList != 0)=true:=bne_iff_ne.2 hn
     generalize hE:LexB.nameE a.data.toList=E at *
     have HName:=Lib.hid hname
     have HN:=Lib.hid (nmI_bad HI.out hsp (fun h => hn (hE ▸ nm_zero.1 h)))
     clear hcut hname hn hc hsp hE hlt
     go_wp2_with fail
     refine HCut.out.mono ?_; rintro e w1 ⟨rfl,n,rfl⟩
     go_wp2_with fail
     refine (HName.out _).mono ?_; rintro e w2 ⟨rfl,rfl⟩
     go_wp2_with fail
     go_ret2
     exact ⟨.inl ⟨HN.out,rfl⟩,b_drewN HB.out n⟩
end TxN
namespace PsT
open Go.RowKit
open LexM Kit
set_option linter.unusedVariables false
def At (w:World) (P:Nat) (A:Option Addr) (n c k:Nat):Prop :=
 w.cell? ⟨P,0,none⟩=some (.slice A n c)/\w.cell? ⟨P,1,none⟩=some (.int .i64 (k:Int))
set_option maxHeartbeats 2000000 in
theorem isNext_end (P:Nat) (A:Option Addr) (n c:Nat) (s:ByteArray) (w:World) (hn:n<=160) (h:At w P A n c n) :
  Calls Tryz.prog 239 #[.pointer (some ⟨P,0,none⟩),.string s] w fun e w' => e=.returned (.bool false)/\∃ m,w'=w.drewN m:=by
 obtain ⟨h0,h1⟩:=h
 have i0:decide ((n:Int) < (n:Int))=false:=decide_eq_false (by omega)
 have i1:¬ (n:Int) < (n:Int):=by omega
 go_enter Tryz.func239,Tryz.ntmps239
 go_wp2_with fail
 go_quiet (fail)
 go_wp2_with fail
 go_ret
 exact ⟨rfl,_,rfl⟩
set_option maxHeartbeats 2000000 in
theorem isNext_some (P g:Nat) (n c k:Nat) (s t:ByteArray) (w:World) (hn:n<=160) (hk:k < n) (h:At w P (some ⟨g,0,none⟩) n c k) (ht:w.cell? ⟨g,k * 6 + 2,none⟩=some (.string t)) (b:Bool) (hb:(t.toList == s.toList)=b) :
  Calls Tryz.prog 239 #[.pointer (some ⟨P,0,none⟩),.string s] w fun e w' => e=.returned (.bool b)/\∃ m,w'=w.drewN m:=by
 obtain ⟨h0,h1⟩:=h
 have i0:decide ((k:Int) < (n:Int))=true:=decide_eq_true (by omega)
 have i1:(k:Int) < (n:Int):=by omega
 have i2:(0:Int)<=(k:Int):=by omega
 have i3:((k:Int)).toNat=k:=by omega
 go_enter Tryz.func239,Tryz.ntmps239
 go_wp2_with fail
 go_quiet (fail)
 go_wp2_with fail
 go_ret
 exact ⟨rfl,_,rfl⟩
set_option maxHeartbeats 2000000 in
theorem throw_end (P:Nat) (A:Option Addr) (n c:Nat) (w:World) (hn:n<=160) (h:At w P A n c n) :
  Calls Tryz.prog 194 #[.pointer (some ⟨P,0,none⟩)] w fun e w' => e=.panicked [{ v:=.iface 224 (.agg #[]),recovered:=false }]/\∃ m,w'=w.drewN m:=by
 obtain ⟨h0,h1⟩:=h
 have i0:((n:Int) == (n:Int))=true:=by simp
 go_enter Tryz.func194,Tryz.ntmps194
 go_wp2_with fail
 go_quiet (fail)
 go_wp2_with fail
 exact ⟨rfl,rfl,_,rfl⟩
set_option maxHeartbeats 2000000 in
theorem throw_some (P g:Nat) (n c k:Nat) (kd p vk nn:Int) (u t:ByteArray) (w:World) (hn:n<=160) (hk:k < n) (h:At w P (some ⟨g,0,none⟩) n c k)
  (c0:w.cell? ⟨g,k * 6,none⟩=some (.int .i64 kd)) (c1:w.cell? ⟨g,k * 6 + 1,none⟩=some (.int .i64 p)) (c2:w.cell? ⟨g,k * 6 + 2,none⟩=some (.string u)) (c3:w.cell? ⟨g,k * 6 + 3,none⟩=some (.int .i64 vk)) (c4:w.cell? ⟨g,k * 6 + 4,none⟩=some (.int .i64 nn)) (c5:w.cell? ⟨g,k * 6 + 5,none⟩=some (.string t)) :
  Calls Tryz.prog 194 #[.pointer (some ⟨P,0,none⟩)] w fun e w' => e=.panicked [{ v:=.iface 222 (.agg #[.int .i64 kd,.int .i64 p,.string u,.int .i64 vk,.int .i64 nn,.string t]),recovered:=false }]/\∃ m,w'=w.drewN m:=by
 obtain ⟨h0,h1⟩:=h
 have i0:((k:Int) == (n:Int))=false:=beq_eq_false_iff_ne.2 (by omega)
 have i1:(k:Int) < (n:Int):=by omega
 have i2:(0:Int)<=(k:Int):=by omega
 have i3:((k:Int)).toNat=k:=by omega
 go_enter Tryz.func194,Tryz.ntmps194
 go_wp2_with fail
 go_quiet (fail)
 go_wp2_with fail
 go_region_dies
 all_goals (try go_wp2)
 all_goals exact ⟨rfl,rfl,_,rfl⟩
def Took (w:World) (P k:Nat) (w':World):Prop:=∃ m,w'=(w.drewN m).setCell ⟨P,1,none⟩ (.int .i64 ((k:Int) + 1))
set_option maxHeartbeats 2000000 in
theorem expect_ok (P g:Nat) (n c k:Nat) (s t:ByteArray) (w:World) (hn:n<=160) (hk:k < n) (h:At w P (some ⟨g,0,none⟩) n c k) (hf:w.frozen? ⟨P,1,none⟩=false) (ht:w.cell? ⟨g,k * 6 + 2,none⟩=some (.string t)) (hb:(t.toList == s.toList)=true) :
  Calls Tryz.prog 265 #[.pointer (some ⟨P,0,none⟩),.string s] w fun e w' => e=.returned (.tuple #[])/\Took w P k w':=by
 have H:=Lib.hid (isNext_some P g n c k s t w hn hk h ht true hb)
 obtain ⟨h0,h1⟩:=h
 have hw:IntKind.i64.wrap ((k:Int) + 1)=(k:Int) + 1:=IntWalk.i64_in _ (by omega)
 go_enter Tryz.func265,Tryz.ntmps265
 go_wp2_with fail
 refine H.out.mono ?_
 rintro e w1 ⟨rfl,m,rfl⟩
 go_wp2_with fail
 go_end0
 exact ⟨rfl,_,rfl⟩
set_option maxHeartbeats 2000000 in
theorem expect_bad (P g:Nat) (n c k:Nat) (kd p vk nn:Int) (s u t:ByteArray) (w:World) (hn:n<=160) (hk:k < n) (h:At w P (some ⟨g,0,none⟩) n c k)
  (c0:w.cell? ⟨g,k * 6,none⟩=some (.int .i64 kd)) (c1:w.cell? ⟨g,k * 6 + 1,none⟩=some (.int .i64 p)) (c2:w.cell? ⟨g,k * 6 + 2,none⟩=some (.string u)) (c3:w.cell? ⟨g,k * 6 + 3,none⟩=some (.int .i64 vk)) (c4:w.cell? ⟨g,k * 6 + 4,none⟩=some (.int .i64 nn)) (c5:w.cell? ⟨g,k * 6 + 5,none⟩=some (.string t)) (hb:(u.toList == s.toList)=false) :
  Calls Tryz.prog 265 #[.pointer (some ⟨P,0,none⟩),.string s] w fun e w' => e=.panicked [{ v:=.iface 222 (.agg #[.int .i64 kd,.int .i64 p,.string u,.int .i64 vk,.int .i64 nn,.string t]),recovered:=false }]/\∃ m,w'=w.drewN m:=by
 have H:=Lib.hid (isNext_some P g n c k s u w hn hk h c2 false hb)
 have H2:=fun m => Lib.hid (throw_some P g n c k kd p vk nn u t (w.drewN m) hn hk h c0 c1 c2 c3 c4 c5)
 clear c0 c1 c2 c3 c4 c5 h
 go_enter Tryz.func265,Tryz.ntmps265
 go_wp2_with fail
 refine H.out.mono ?_
 rintro e w1 ⟨rfl,m,rfl⟩
 go_wp2_with fail
 refine (H2 m).out.mono ?_
 rintro e w1 ⟨rfl,m',rfl⟩
 go_wp2_with fail
 exact ⟨rfl,rfl,_,rfl⟩
set_option maxHeartbeats 2000000 in
theorem expect_end (P:Nat) (A:Option Addr) (n c:Nat) (s:ByteArray) (w:World) (hn:n<=160) (h:At w P A n c n) :
  Calls Tryz.prog 265 #[.pointer (some ⟨P,0,none⟩),.string s] w fun e w' => e=.panicked [{ v:=.iface 224 (.agg #[]),recovered:=false }]/\∃ m,w'=w.drewN m:=by
 have H:=Lib.hid (isNext_end P A n c s w hn h)
 have H2:=fun m => Lib.hid (throw_end P A n c (w.drewN m) hn h)
 clear h
 go_enter Tryz.func265,Tryz.ntmps265
 go_wp2_with fail
 refine H.out.mono ?_
 rintro e w1 ⟨rfl,m,rfl⟩
 go_wp2_with fail
 refine (H2 m).out.mono ?_
 rintro e w1 ⟨rfl,m',rfl⟩
 go_wp2_with fail
 exact ⟨rfl,rfl,_,rfl⟩
def rw_ (k:Nat):NotTab.Rw:=NotTab.rows.getD k ([],0,0)
theorem rw_at (k:Nat) (h:k < 19):NotTab.rows[k]?=some (rw_ k):=by
 unfold rw_
 rw [List.getD,List.getElem?_eq_getElem (show k < NotTab.rows.length from h)]; rfl
theorem tab_cells {w : World} (h : NotTab.Is Tryz.prog w "lychway/expr.notations" NotTab.rows) (k : Nat) (hk : k < 19) : w.cell? ⟨2, k * 3, none⟩ = some (.string ⟨(rw_ k).1.toArray⟩) ∧ w.cell? ⟨2, k * 3 + 1, none⟩ = some (.int .i64 (rw_ k).2.1) ∧ w.cell? ⟨2, k * 3 + 2, none⟩ = some (.int .i64 (rw_ k).2.2) :=
 NotTab.Is.cell h (g:=2) (by kernel_rfl) k _ (rw_at k hk)
theorem cell_ltP {w:World} {b o:Nat} {v:Value} (h:w.cell? ⟨b,o,none⟩=some v):b < w.heap.size:=by
 rcases Nat.lt_or_ge b w.heap.size with g | g
 ·exact g
 ·simp [World.cell?,Array.getElem?_eq_none g] at h
theorem bcellP {B:Nat} {W w1:World} (hb:Below B W w1):(∀ b o,b < B->w1.cell? ⟨b,o,none⟩=W.cell? ⟨b,o,none⟩)/\(∀ b o,b < B->w1.frozen? ⟨b,o,none⟩=W.frozen? ⟨b,o,none⟩) :=
 ⟨fun b o h => hb.cell (p:=⟨b,o,none⟩) h,fun b o h => hb.frozen (p:=⟨b,o,none⟩) h⟩
def tabV:Array Value:=#[.string ⟨#[]⟩,.int .i64 0,.int .i64 0,.string ⟨#[]⟩,.int .i64 6,.int .i64 0,.string ⟨#[]⟩,.int .i64 6,.int .i64 0,.string ⟨#[45]⟩,.int .i64 5,.int .i64 1,.string ⟨#[110,111,116]⟩,.int .i64 5,.int .i64 1,.string ⟨#[42]⟩,.int .i64 4,.int .i64 2,.string ⟨#[47]⟩,.int .i64 4,.int .i64 2,.string ⟨#[37]⟩,.int .i64 4,.int .i64 2,.string ⟨#[43]⟩,.int .i64 3,.int .i64 2,.string ⟨#[45]⟩,.int .i64 3,.int .i64 2,.string ⟨#[38]⟩,.int .i64 3,.int .i64 2,.string ⟨#[60]⟩,.int .i64 2,.int .i64 2,.string ⟨#[60,61]⟩,.int .i64 2,.int .i64 2,.string ⟨#[61]⟩,.int .i64 2,.int .i64 2,.string ⟨#[33,61]⟩,.int .i64 2,.int .i64 2,.string ⟨#[97,110,100]⟩,.int .i64 1,.int .i64 2,.string ⟨#[111,114]⟩,.int .i64 0,.int .i64 2,.string ⟨#[105,102]⟩,.int .i64 6,.int .i64 3,.string ⟨#[108,101,110]⟩,.int .i64 6,.int .i64 1]
theorem tab_at (k:Nat) (h:k < 19) (w:World):(Instr.index 131 (.agg tabV) (.int .i64 k)).run Tryz.prog w=.ok (.agg #[.string ⟨(rw_ k).1.toArray⟩,.int .i64 (rw_ k).2.1,.int .i64 (rw_ k).2.2]) w:=by
 obtain rfl | rfl | rfl | rfl | rfl | rfl | rfl | rfl | rfl | rfl | rfl | rfl | rfl | rfl | rfl | rfl | rfl | rfl | rfl:k=0 ∨ k=1 ∨ k=2 ∨ k=3 ∨ k=4 ∨ k=5 ∨ k=6 ∨ k=7 ∨ k=8 ∨ k=9 ∨ k=10 ∨ k=11 ∨ k=12 ∨ k=13 ∨ k=14 ∨ k=15 ∨ k=16 ∨ k=17 ∨ k=18:=by omega
 all_goals kernel_rfl
theorem tab_block {w : World} (h : NotTab.Is Tryz.prog w "lychway/expr.notations" NotTab.rows) : ∃ t fr, w.heap[2]? = some (.cells tabV t fr) := by
 unfold NotTab.Is World.var? at h
 have hg : Tryz.prog.globalNamed "lychway/expr.notations" = some 2 := by kernel_rfl
 rw [hg] at h
 simp only [Option.bind_some] at h
 have hv:(NotTab.rows.flatMap NotTab.rowC).toArray=tabV:=by rfl
 rw [hv] at h
 split at h <;> simp_all
set_option maxRecDepth 100000 in
set_option maxHeartbeats 4000000 in
theorem operator_none (P : Nat) (f : ByteArray → Bool) (q : Nat) (w : World) (hno : ∀ j, j < 19 → ¬ ((rw_ j).2.1 = (q : Int) ∧ f ⟨(rw_ j).1.toArray⟩ = true)) (hT : NotTab.Is Tryz.prog w "lychway/expr.notations" NotTab.rows)
  (hI:∀ s W,Below w.heap.size w W->Calls Tryz.prog 239 #[.pointer (some ⟨P,0,none⟩),.string s] W fun e w' => e=.returned (.bool (f s))/\∃ m,w'=W.drewN m) :
  Calls Tryz.prog 222 #[.pointer (some ⟨P,0,none⟩),.int .i64 (q:Int)] w fun e w' => e=.returned (.int .i64 0)/\Below w.heap.size w w':=by
 obtain ⟨tt,fr,hg⟩:=tab_block hT
 obtain ⟨tv,htv⟩:∃ v,v=tabV:=⟨_,rfl⟩
 rw [← htv] at hg
 have hsz:(Tryz.prog.info? 131).map (·.size)=some tv.size:=by rw [htv]; kernel_rfl
 have ix:=fun k h W => tab_at k h W
 rw [← htv] at ix
 have IX:=Lib.hid ix
 have HI:=Lib.hid hI
 have HN:=Lib.hid hno
 clear htv ix hI hno
 go_enter Tryz.func222,Tryz.ntmps222
 go_wp2_with (refine wpList_load_row rfl 131 _ rfl 2 rfl tt _ fr _ hg Tryz.underlying131 rfl hsz ?_)
 clear hg hsz hT
 go_loopw [4,8] (fun _ i wr => ∃ j:Nat,j<=19/\i=.int .i64 j/\Below w.heap.size w wr) (fun _ i _ => 19 - (intOf i).toNat)
 case atStart => exact ⟨0,by omega,rfl,Below.refl _ _⟩
 case round =>
  obtain ⟨j,hj,rfl,hb⟩:=hrel
  by_cases hlt:j < 19
  ·have ix:=IX.out j (by omega)
   have hnj:=HN.out j hlt
   obtain ⟨s,hs⟩:∃ s:ByteArray,ByteArray.mk (rw_ j).1.toArray=s:=⟨_,rfl⟩
   obtain ⟨y,hy⟩:∃ y,(rw_ j).2.1=y:=⟨_,rfl⟩
   obtain ⟨z,hz⟩:∃ z,(rw_ j).2.2=z:=⟨_,rfl⟩
   rw [hs,hy] at hnj
   simp only [hs,hy,hz] at ix
   clear hs hy hz
   by_cases hq:y=(q:Int)
   ·have hf:f s=false:=by cases h:f s with | false => rfl | true => exact absurd ⟨hq,h⟩ hnj
    have h1:=HI.out s
    rw [hf] at h1
    have H1:=Lib.hid h1
    clear h1 hnj hf
    subst hq
    go_wp2_with fail
    refine (H1.out _ (b_more hb _)).mono ?_
    rintro e w1 ⟨rfl,m,rfl⟩
    go_wp2_with fail
    go_roundw
    case rel => exact ⟨j + 1,by omega,by go_num,b_drewN (b_more hb _) _⟩
    case measure => simp [intOf]; omega
   ·clear hnj
    go_wp2_with fail
    go_roundw
    case rel => exact ⟨j + 1,by omega,by go_num,b_more hb _⟩
    case measure => simp [intOf]; omega
  ·go_wp2_with fail
   go_ret
   exact ⟨rfl,hb⟩
set_option maxRecDepth 100000 in
set_option maxHeartbeats 4000000 in
theorem operator_some (P : Nat) (f : ByteArray → Bool) (q : Nat) (w : World) (k op : Nat) (hk : k ≤ 160) (h1 : w.cell? ⟨P, 1, none⟩ = some (.int .i64 (k : Int))) (h2 : w.frozen? ⟨P, 1, none⟩ = false) (ho : op < 19) (hop : (rw_ op).2.1 = (q : Int) ∧ f ⟨(rw_ op).1.toArray⟩ = true) (hno : ∀ j, j < op → ¬ ((rw_ j).2.1 = (q : Int) ∧ f ⟨(rw_ j).1.toArray⟩ = true)) (hT : NotTab.Is Tryz.prog w "lychway/expr.notations" NotTab.rows)
  (hI:∀ s W,Below w.heap.size w W->Calls Tryz.prog 239 #[.pointer (some ⟨P,0,none⟩),.string s] W fun e w' => e=.returned (.bool (f s))/\∃ m,w'=W.drewN m) :
  Calls Tryz.prog 222 #[.pointer (some ⟨P,0,none⟩),.int .i64 (q:Int)] w fun e w' => e=.returned (.int .i64 (op:Int))/\∃ w1,Below w.heap.size w w1/\w'=w1.setCell ⟨P,1,none⟩ (.int .i64 ((k:Int) + 1)):=by
 obtain ⟨tt,fr,hg⟩:=tab_block hT
 obtain ⟨tv,htv⟩:∃ v,v=tabV:=⟨_,rfl⟩
 rw [← htv] at hg
 have hsz:(Tryz.prog.info? 131).map (·.size)=some tv.size:=by rw [htv]; kernel_rfl
 have ix:=fun k h W => tab_at k h W
 rw [← htv] at ix
 have IX:=Lib.hid ix
 have HI:=Lib.hid hI
 have HN:=Lib.hid hno
 clear htv ix hI hno
 go_enter Tryz.func222,Tryz.ntmps222
 go_wp2_with (refine wpList_load_row rfl 131 _ rfl 2 rfl tt _ fr _ hg Tryz.underlying131 rfl hsz ?_)
 clear hg hsz hT
 go_loopw [4,8] (fun _ i wr => ∃ j:Nat,j<=op/\i=.int .i64 j/\Below w.heap.size w wr) (fun _ i _ => 19 - (intOf i).toNat)
 case atStart => exact ⟨0,by omega,rfl,Below.refl _ _⟩
 case round =>
  obtain ⟨j,hj,rfl,hb⟩:=hrel
  by_cases hlt:j < op
  ·have ix:=IX.out j (by omega)
   have hnj:=HN.out j hlt
   obtain ⟨s,hs⟩:∃ s:ByteArray,ByteArray.mk (rw_ j).1.toArray=s:=⟨_,rfl⟩
   obtain ⟨y,hy⟩:∃ y,(rw_ j).2.1=y:=⟨_,rfl⟩
   obtain ⟨z,hz⟩:∃ z,(rw_ j).2.2=z:=⟨_,rfl⟩
   rw [hs,hy] at hnj
   simp only [hs,hy,hz] at ix
   clear hs hy hz
   by_cases hq:y=(q:Int)
   ·have hf:f s=false:=by cases h:f s with | false => rfl | true => exact absurd ⟨hq,h⟩ hnj
    have h1:=HI.out s
    rw [hf] at h1
    have H1:=Lib.hid h1
    clear h1 hnj hf
    subst hq
    go_wp2_with fail
    refine (H1.out _ (b_more hb _)).mono ?_
    rintro e w1 ⟨rfl,m,rfl⟩
    go_wp2_with fail
    go_roundw
    case rel => exact ⟨j + 1,by omega,by go_num,b_drewN (b_more hb _) _⟩
    case measure => simp [intOf]; omega
   ·clear hnj
    go_wp2_with fail
    go_roundw
    case rel => exact ⟨j + 1,by omega,by go_num,b_more hb _⟩
    case measure => simp [intOf]; omega
  ·obtain rfl:j=op:=by omega
   have ix:=IX.out j (by omega)
   obtain ⟨s,hs⟩:∃ s:ByteArray,ByteArray.mk (rw_ j).1.toArray=s:=⟨_,rfl⟩
   obtain ⟨y,hy⟩:∃ y,(rw_ j).2.1=y:=⟨_,rfl⟩
   obtain ⟨z,hz⟩:∃ z,(rw_ j).2.2=z:=⟨_,rfl⟩
   rw [hs,hy] at hop
   simp only [hs,hy,hz] at ix
   clear hs hy hz
   obtain ⟨hq,hf⟩:=hop
   have h1':=HI.out s
   rw [hf] at h1'
   have H1:=Lib.hid h1'
   clear h1' hf
   subst hq
   have hP:P < w.heap.size:=cell_ltP h1
   have c1:∀ V,Below w.heap.size w V->V.cell? ⟨P,1,none⟩=some (.int .i64 (k:Int)):=fun V hV => by rw [(bcellP hV).1 P 1 hP]; exact h1
   have c2:∀ V,Below w.heap.size w V->V.frozen? ⟨P,1,none⟩=false:=fun V hV => by rw [(bcellP hV).2 P 1 hP]; exact h2
   have hw:IntKind.i64.wrap ((k:Int) + 1)=(k:Int) + 1:=IntWalk.i64_in _ (by omega)
   go_wp2_with fail
   refine (H1.out _ (b_more hb _)).mono ?_
   rintro e w1 ⟨rfl,m,rfl⟩
   have hb1:=b_drewN (b_more hb (.cells #[.string s,.int .i64 (q:Int),.int .i64 z] 130)) m
   have c1':=c1 _ hb1
   have c2':=c2 _ hb1
   clear c1 c2 h1 h2
   go_wp2_with fail
   go_ret
   exact ⟨rfl,_,hb1,rfl⟩
theorem leaf_const (kd p vk nn:Int) (u t:ByteArray) (hk:kd=1 ∨ kd=3) (w:World) :
  Calls Tryz.prog 266 #[.agg #[.int .i64 kd,.int .i64 p,.string u,.int .i64 vk,.int .i64 nn,.string t]] w fun e w' => e=.returned (.tuple #[.agg #[.int .i64 1,.int .i64 vk,.int .i64 nn,.string t,.string ⟨#[]⟩,.slice none 0 0],.bool true])/\Below w.heap.size w w':=by
 rcases hk with rfl | rfl
 ·go_enter Tryz.func266,Tryz.ntmps266
  go_wp2_with fail
  refine bodyPost_ret (v:=.tuple #[.agg #[.int .i64 1,.int .i64 vk,.int .i64 nn,.string t,.string ⟨#[]⟩,.slice none 0 0],.bool true]) (by simp [results,Tryz.results266,go_sem]) rfl ⟨rfl,b_more (b_new _ _) _⟩
 ·go_enter Tryz.func266,Tryz.ntmps266
  go_wp2_with fail
  refine bodyPost_ret (v:=.tuple #[.agg #[.int .i64 1,.int .i64 vk,.int .i64 nn,.string t,.string ⟨#[]⟩,.slice none 0 0],.bool true]) (by simp [results,Tryz.results266,go_sem]) rfl ⟨rfl,b_more (b_new _ _) _⟩
theorem leaf_name (p vk nn:Int) (u t:ByteArray) (hu:(u.toList == [116,114,117,101])=false) (hv:(u.toList == [102,97,108,115,101])=false) (w:World)
  (hK:∀ W,Calls Tryz.prog 146 #[.string u] W fun e w' => e=.returned (.bool false)/\W=w') :
  Calls Tryz.prog 266 #[.agg #[.int .i64 2,.int .i64 p,.string u,.int .i64 vk,.int .i64 nn,.string t]] w fun e w' => e=.returned (.tuple #[.agg #[.int .i64 2,.int .i64 0,.int .i64 0,.string ⟨#[]⟩,.string u,.slice none 0 0],.bool true])/\Below w.heap.size w w':=by
 have HK:=Lib.hid hK
 clear hK
 go_enter Tryz.func266,Tryz.ntmps266
 go_wp2_with fail
 refine (HK.out _).mono ?_
 rintro e w1 ⟨rfl,rfl⟩
 go_wp2_with fail
 refine bodyPost_ret (v:=.tuple #[.agg #[.int .i64 2,.int .i64 0,.int .i64 0,.string ⟨#[]⟩,.string u,.slice none 0 0],.bool true]) (by simp [results,Tryz.results266,go_sem]) rfl ⟨rfl,b_more (b_new _ _) _⟩
theorem leaf_key (p vk nn:Int) (u t:ByteArray) (hu:(u.toList == [116,114,117,101])=false) (hv:(u.toList == [102,97,108,115,101])=false) (w:World)
  (hK:∀ W,Calls Tryz.prog 146 #[.string u] W fun e w' => e=.returned (.bool true)/\W=w') :
  Calls Tryz.prog 266 #[.agg #[.int .i64 2,.int .i64 p,.string u,.int .i64 vk,.int .i64 nn,.string t]] w fun e w' => e=.returned (.tuple #[.agg #[.int .i64 0,.int .i64 0,.int .i64 0,.string ⟨#[]⟩,.string ⟨#[]⟩,.slice none 0 0],.bool false])/\Below w.heap.size w w':=by
 have HK:=Lib.hid hK
 clear hK
 go_enter Tryz.func266,Tryz.ntmps266
 go_wp2_with fail
 refine (HK.out _).mono ?_
 rintro e w1 ⟨rfl,rfl⟩
 go_wp2_with fail
 refine bodyPost_ret (v:=.tuple #[.agg #[.int .i64 0,.int .i64 0,.int .i64 0,.string ⟨#[]⟩,.string ⟨#[]⟩,.slice none 0 0],.bool false]) (by simp [results,Tryz.results266,go_sem]) rfl ⟨rfl,b_more (b_new _ _) _⟩
theorem leaf_none (kd p vk nn:Int) (u t:ByteArray) (k1:kd ≠ 1) (k2:kd ≠ 2) (k3:kd ≠ 3) (hu:(u.toList == [116,114,117,101])=false) (hv:(u.toList == [102,97,108,115,101])=false) (w:World) :
  Calls Tryz.prog 266 #[.agg #[.int .i64 kd,.int .i64 p,.string u,.int .i64 vk,.int .i64 nn,.string t]] w fun e w' => e=.returned (.tuple #[.agg #[.int .i64 0,.int .i64 0,.int .i64 0,.string ⟨#[]⟩,.string ⟨#[]⟩,.slice none 0 0],.bool false])/\Below w.heap.size w w':=by
 have e1:(kd == 1)=false:=beq_eq_false_iff_ne.2 k1
 have e2:(kd == 2)=false:=beq_eq_false_iff_ne.2 k2
 have e3:(kd == 3)=false:=beq_eq_false_iff_ne.2 k3
 go_enter Tryz.func266,Tryz.ntmps266
 go_wp2_with fail
 refine bodyPost_ret (v:=.tuple #[.agg #[.int .i64 0,.int .i64 0,.int .i64 0,.string ⟨#[]⟩,.string ⟨#[]⟩,.slice none 0 0],.bool false]) (by simp [results,Tryz.results266,go_sem]) rfl ⟨rfl,b_more (b_new _ _) _⟩
end PsT
namespace Ps
open Go.RowKit
open LexM ExM Kit ExL ExP PsM PsT NmC
set_option linter.unusedVariables false
def tkC (x:Tk):List Value:=[.int .i64 x.kind,.int .i64 x.pos,.string ⟨x.s.toArray⟩,.int .i64 x.vk,.int .i64 x.n,.string ⟨x.t.toArray⟩]
def tkV (x:Tk):Value:=.agg #[.int .i64 x.kind,.int .i64 x.pos,.string ⟨x.s.toArray⟩,.int .i64 x.vk,.int .i64 x.n,.string ⟨x.t.toArray⟩]
/-- What leaf answers of a token. -/
def LeafOut (t : Tk) (W : World) (e : Ending) (w' : World) : Prop :=
  ((∃ x, leafN t = some x ∧ e = .returned (.tuple #[.agg #[.int .i64 x.d.op, .int .i64 x.d.k, .int .i64 x.d.n, .string x.d.s, .string x.d.nm, .slice none 0 0], .bool true])) ∨
   (leafN t = none ∧ e = .returned (.tuple #[.agg #[.int .i64 0, .int .i64 0, .int .i64 0, .string ⟨#[]⟩, .string ⟨#[]⟩, .slice none 0 0], .bool false]))) ∧ Below W.heap.size W w'
structure Env (w0:World) (P:Nat) (A:Option Addr) (L:List Tk):Prop where
 len:L.length<=160
 cells:∀ (i:Nat) (h:i < L.length),∃ g,A=some ⟨g,0,none⟩/\∀ j,j < 6->w0.cell? ⟨g,i * 6 + j,none⟩=(tkC L[i])[j]?
 hP:w0.heap.size<=P
 tab : NotTab.Is Tryz.prog w0 "lychway/expr.notations" NotTab.rows
 leaf:∀ t ∈ L,∀ W,Below w0.heap.size w0 W->Calls Tryz.prog 266 #[tkV t] W (LeafOut t W)
structure St (w0:World) (P:Nat) (A:Option Addr) (c:Nat) (L:List Tk) (w:World) (k:Nat):Prop where
 prs:w.heap[P]?=some (.cells #[.slice A L.length c,.int .i64 (k:Int)] 226 (0,0))
 below:Below w0.heap.size w0 w
 le:k<=L.length
section
variable {w0:World} {P:Nat} {A:Option Addr} {c:Nat} {L:List Tk} {w w':World} {k:Nat}
theorem St.at (h:St w0 P A c L w k):PsT.At w P A L.length c k:=by
 have:=h.prs
 exact ⟨by simp [World.cell?,this],by simp [World.cell?,this]⟩
theorem St.lt (h:St w0 P A c L w k):P < w.heap.size:=(Array.getElem?_eq_some_iff.1 h.prs).1
theorem St.frozen (h:St w0 P A c L w k) (o:Nat):w.frozen? ⟨P,o,none⟩=false:=by
 have:=h.prs
 simp [World.frozen?,this]
theorem St.keep (h:St w0 P A c L w k) (hb:Below w.heap.size w w'):St w0 P A c L w' k :=
 ⟨(hb.block P h.lt).trans h.prs,h.below.trans (hb.mono h.below.size),h.le⟩
theorem St.drew (h:St w0 P A c L w k) (m:Nat):St w0 P A c L (w.drewN m) k:=h.keep (b_drewN (Below.refl _ _) m)
theorem St.took (h:St w0 P A c L w k) (hP:w0.heap.size<=P) (hk:k < L.length):St w0 P A c L (w.setCell ⟨P,1,none⟩ (.int .i64 ((k:Int) + 1))) (k + 1):=by
 refine ⟨?_,h.below.setCell (p:=⟨P,1,none⟩) hP _,hk⟩
 have:=h.prs
 simp [World.setCell,Array.getElem?_modify,this]
theorem grown_below (hb:Below w.heap.size w w') (r:Option Nat):w.grownBy w' r:=⟨hb.os,hb.tape,hb.output,hb.size,fun j hj _ => hb.block j hj⟩
theorem grown_set (w:World) (P o:Nat) (v:Value):w.grownBy (w.setCell ⟨P,o,none⟩ v) (some P) :=
 ⟨rfl,rfl,rfl,by simp [World.setCell],fun j hj hne => Below.heap_setCell w ⟨P,o,none⟩ v j (fun e => hne (by rw [e]))⟩
theorem grown_trans {u v x:World} {r:Option Nat} (h:u.grownBy v r) (g:v.grownBy x r):u.grownBy x r :=
 ⟨g.os.trans h.os,g.tape.trans h.tape,g.output.trans h.output,Nat.le_trans h.size g.size,fun j hj hne => (g.block j (Nat.lt_of_lt_of_le hj h.size) hne).trans (h.block j hj hne)⟩
theorem drop_cons {t:Tk} {r:List Tk} (h:L.drop k=t :: r):∃ hk:k < L.length,t=L[k]/\r=L.drop (k + 1):=by
 have hk:k < L.length:=by
  rcases Nat.lt_or_ge k L.length with g | g
  ·exact g
  ·rw [List.drop_eq_nil_of_le g] at h; cases h
 rw [List.drop_eq_getElem_cons hk] at h
 injection h with h1 h2
 exact ⟨hk,h1.symm,h2.symm⟩
theorem drop_nil (h:L.drop k=[]) (hk:k<=L.length):k=L.length:=by
 have:=List.drop_eq_nil_iff.1 h; omega
theorem tok_cells (hE:Env w0 P A L) (hS:St w0 P A c L w k) (hk:k < L.length):∃ g,A=some ⟨g,0,none⟩/\w.cell? ⟨g,k * 6,none⟩=some (.int .i64 L[k].kind)/\w.cell? ⟨g,k * 6 + 1,none⟩=some (.int .i64 L[k].pos)/\w.cell? ⟨g,k * 6 + 2,none⟩=some (.string ⟨L[k].s.toArray⟩)/\w.cell? ⟨g,k * 6 + 3,none⟩=some (.int .i64 L[k].vk)/\w.cell? ⟨g,k * 6 + 4,none⟩=some (.int .i64 L[k].n)/\w.cell? ⟨g,k * 6 + 5,none⟩=some (.string ⟨L[k].t.toArray⟩):=by
 obtain ⟨g,hA,hc⟩:=hE.cells k hk
 have key:∀ j v,j < 6->(tkC L[k])[j]?=some v->w.cell? ⟨g,k * 6 + j,none⟩=some v:=fun j v hj hv => by
  have h1:=(hc j hj).trans hv
  exact (hS.below.cell (p:=⟨g,k * 6 + j,none⟩) (cell_ltP h1)).trans h1
 exact ⟨g,hA,key 0 _ (by decide) rfl,key 1 _ (by decide) rfl,key 2 _ (by decide) rfl,key 3 _ (by decide) rfl,key 4 _ (by decide) rfl,key 5 _ (by decide) rfl⟩
theorem beq_bytes (l:List UInt8) (s:ByteArray) (b:Bool) (h:decide (l=s.data.toList)=b):((ByteArray.mk l.toArray).toList == s.toList)=b:=by
 rw [ByteArray.toList_eq,ByteArray.toList_eq,← h]
 by_cases e:l=s.data.toList
 ·rw [decide_eq_true e]; simp [e]
 ·rw [decide_eq_false e]; simp [e]
theorem isNext_c (hE:Env w0 P A L) (hS:St w0 P A c L w k) (s:ByteArray) :
  Calls Tryz.prog 239 #[.pointer (some ⟨P,0,none⟩),.string s] w fun e w' => e=.returned (.bool (isNext s.data.toList (L.drop k)))/\∃ m,w'=w.drewN m:=by
 cases hd:L.drop k with
 | nil =>
  obtain rfl:=drop_nil hd hS.le
  exact isNext_end P A L.length c s w hE.len hS.at
 | cons t r =>
  obtain ⟨hk,rfl,rfl⟩:=drop_cons hd
  obtain ⟨g,rfl,c0,c1,c2,c3,c4,c5⟩:=tok_cells hE hS hk
  exact isNext_some P g L.length c k s _ w hE.len hk hS.at c2 _ (beq_bytes _ _ _ rfl)
def Wrong (v:Value) (r:List Tk):Prop:=(r=[]/\v=.iface 224 (.agg #[])) ∨ ∃ t r',r=t :: r'/\v=.iface 222 (tkV t)
theorem throw_c (hE:Env w0 P A L) (hS:St w0 P A c L w k) :
  Calls Tryz.prog 194 #[.pointer (some ⟨P,0,none⟩)] w fun e w' => ∃ v,e=.panicked [{ v:=v,recovered:=false }]/\Wrong v (L.drop k)/\∃ m,w'=w.drewN m:=by
 cases hd:L.drop k with
 | nil =>
  obtain rfl:=drop_nil hd hS.le
  refine (throw_end P A L.length c w hE.len hS.at).mono ?_
  rintro e w' ⟨rfl,hm⟩
  exact ⟨_,rfl,.inl ⟨rfl,rfl⟩,hm⟩
 | cons t r =>
  obtain ⟨hk,rfl,rfl⟩:=drop_cons hd
  obtain ⟨g,rfl,c0,c1,c2,c3,c4,c5⟩:=tok_cells hE hS hk
  refine (throw_some P g L.length c k _ _ _ _ _ _ w hE.len hk hS.at c0 c1 c2 c3 c4 c5).mono ?_
  rintro e w' ⟨rfl,hm⟩
  exact ⟨_,rfl,.inr ⟨_,_,rfl,rfl⟩,hm⟩
theorem expect_c (hE:Env w0 P A L) (hS:St w0 P A c L w k) (s:ByteArray) (hn:isNext s.data.toList (L.drop k)=true) :
  Calls Tryz.prog 265 #[.pointer (some ⟨P,0,none⟩),.string s] w fun e w' => e=.returned (.tuple #[])/\k < L.length/\St w0 P A c L w' (k + 1)/\w.grownBy w' (some P):=by
 cases hd:L.drop k with
 | nil => rw [hd] at hn; cases hn
 | cons t r =>
  obtain ⟨hk,rfl,rfl⟩:=drop_cons hd
  obtain ⟨g,rfl,c0,c1,c2,c3,c4,c5⟩:=tok_cells hE hS hk
  rw [hd] at hn
  refine (expect_ok P g L.length c k s _ w hE.len hk hS.at (hS.frozen 1) c2 (beq_bytes _ _ _ hn)).mono ?_
  rintro e w' ⟨rfl,m,rfl⟩
  exact ⟨rfl,hk,(hS.drew m).took hE.hP hk,grown_trans (grown_below (b_drewN (Below.refl _ _) m) _) (grown_set _ _ _ _)⟩
theorem expect_no (hE:Env w0 P A L) (hS:St w0 P A c L w k) (s:ByteArray) (hn:isNext s.data.toList (L.drop k)=false) :
  Calls Tryz.prog 265 #[.pointer (some ⟨P,0,none⟩),.string s] w fun e w' => ∃ v,e=.panicked [{ v:=v,recovered:=false }]/\Wrong v (L.drop k)/\∃ m,w'=w.drewN m:=by
 cases hd:L.drop k with
 | nil =>
  obtain rfl:=drop_nil hd hS.le
  refine (expect_end P A L.length c s w hE.len hS.at).mono ?_
  rintro e w' ⟨rfl,hm⟩
  exact ⟨_,rfl,.inl ⟨rfl,rfl⟩,hm⟩
 | cons t r =>
  obtain ⟨hk,rfl,rfl⟩:=drop_cons hd
  obtain ⟨g,rfl,c0,c1,c2,c3,c4,c5⟩:=tok_cells hE hS hk
  rw [hd] at hn
  refine (expect_bad P g L.length c k _ _ _ _ s _ _ w hE.len hk hS.at c0 c1 c2 c3 c4 c5 (beq_bytes _ _ _ hn)).mono ?_
  rintro e w' ⟨rfl,hm⟩
  exact ⟨_,rfl,.inr ⟨_,_,rfl,rfl⟩,hm⟩
def opNext (q:Nat):List Tk->Option Nat
 | [] => none
 | t :: _ => PsM.opAt q t.s
theorem opAt_none {q:Nat} {s:List UInt8} (h:PsM.opAt q s=none) (hq:q<=6) (hs:s ≠ []):∀ j,j < 19->¬ ((rwP j).2.1=(q:Int)/\(rwP j).1=s):=fun j hj ⟨h1,h2⟩ => by
 unfold PsM.opAt at h
 rw [List.find?_eq_none] at h
 have:=h j (List.mem_range.2 hj)
 simp only [Bool.and_eq_true,decide_eq_true_eq,not_and] at this
 have h3:3<=j:=by
  rcases Nat.lt_or_ge j 3 with g | g
  ·have:(rwP j).1=[]:=by
    obtain rfl | rfl | rfl:j=0 ∨ j=1 ∨ j=2:=by omega
    all_goals rfl
   exact absurd (h2.symm.trans this) hs
  ·exact g
 exact this ⟨h3,h1⟩ h2
theorem opAt_some {q op:Nat} {s:List UInt8} (h:PsM.opAt q s=some op) (hs:s ≠ []):op < 19/\3<=op/\((rwP op).2.1=(q:Int)/\(rwP op).1=s)/\∀ j,j < op->¬ ((rwP j).2.1=(q:Int)/\(rwP j).1=s):=by
 unfold PsM.opAt at h
 rw [List.find?_eq_some_iff_getElem] at h
 obtain ⟨h1,i,hi,he,hlt⟩:=h
 simp only [List.length_range] at hi
 rw [List.getElem_range] at he
 subst he
 simp only [Bool.and_eq_true,decide_eq_true_eq] at h1
 refine ⟨hi,h1.1.1,⟨h1.1.2,h1.2⟩,fun j hj ⟨g1,g2⟩ => ?_⟩
 have:=hlt j hj
 rw [List.getElem_range] at this
 have h3:3<=j:=by
  rcases Nat.lt_or_ge j 3 with g | g
  ·have h0:(rwP j).1=[]:=by
    obtain rfl | rfl | rfl:j=0 ∨ j=1 ∨ j=2:=by omega
    all_goals rfl
   exact absurd (g2.symm.trans h0) hs
  ·exact g
 simp [h3,g1,g2] at this
def Full (L:List Tk):Prop:=∀ t ∈ L,t.s ≠ []
theorem isN_c (hE:Env w0 P A L) (hS:St w0 P A c L w k):∀ (s:ByteArray) (W:World),Below w.heap.size w W->Calls Tryz.prog 239 #[.pointer (some ⟨P,0,none⟩),.string s] W fun e w' => e=.returned (.bool (isNext s.data.toList (L.drop k)))/\∃ m,w'=W.drewN m :=
 fun s W hb => isNext_c hE (hS.keep hb) s
theorem operator_no (hE:Env w0 P A L) (hS:St w0 P A c L w k) (hF:Full L) (q:Nat) (hq:q<=6) (hn:opNext q (L.drop k)=none) :
  Calls Tryz.prog 222 #[.pointer (some ⟨P,0,none⟩),.int .i64 (q:Int)] w fun e w' => e=.returned (.int .i64 0)/\Below w.heap.size w w':=by
 refine operator_none P (fun s => isNext s.data.toList (L.drop k)) q w (fun j hj ⟨h1,h2⟩ => ?_) (ExN.Tab.below hE.tab hS.below) (isN_c hE hS)
 cases hd:L.drop k with
 | nil => rw [hd] at h2; cases h2
 | cons t r =>
  rw [hd] at h2 hn
  obtain ⟨hk,ht,_⟩:=drop_cons hd
  refine opAt_none hn hq (hF t (by rw [ht]; exact List.getElem_mem _)) j hj ⟨h1,?_⟩
  have:=of_decide_eq_true (show decide (t.s=_)=true from h2)
  rw [this]; rfl
theorem operator_yes (hE:Env w0 P A L) (hS:St w0 P A c L w k) (hF:Full L) (q op:Nat) (hn:opNext q (L.drop k)=some op) :
  Calls Tryz.prog 222 #[.pointer (some ⟨P,0,none⟩),.int .i64 (q:Int)] w fun e w' => e=.returned (.int .i64 (op:Int))/\k < L.length/\St w0 P A c L w' (k + 1)/\w.grownBy w' (some P):=by
 cases hd:L.drop k with
 | nil => rw [hd] at hn; cases hn
 | cons t r =>
  obtain ⟨hk,ht,_⟩:=drop_cons hd
  rw [hd] at hn
  obtain ⟨o1,o3,o2,o4⟩:=opAt_some hn (hF t (by rw [ht]; exact List.getElem_mem _))
  have hone:∀ j,((rwP j).2.1=(q:Int)/\(rwP j).1=t.s) ↔ ((rw_ j).2.1=(q:Int)/\(fun s:ByteArray => isNext s.data.toList (L.drop k)) ⟨(rw_ j).1.toArray⟩=true):=fun j => by
   rw [hd]
   show _ ↔ _/\decide (t.s=_)=true
   rw [decide_eq_true_iff]
   exact ⟨fun ⟨a,b⟩ => ⟨a,b.symm⟩,fun ⟨a,b⟩ => ⟨a,b.symm⟩⟩
  refine (operator_some P (fun s => isNext s.data.toList (L.drop k)) q w k op (by have:=hE.len; omega) hS.at.2 (hS.frozen 1) o1 ((hone op).1 o2) (fun j hj h => o4 j hj ((hone j).2 h)) (ExN.Tab.below hE.tab hS.below) (isN_c hE hS)).mono ?_
  rintro e w' ⟨rfl,w1,hb,rfl⟩
  exact ⟨rfl,hk,(hS.keep hb).took hE.hP hk,grown_trans (grown_below hb _) (grown_set _ _ _ _)⟩
end
end Ps
namespace PsR
open Go.RowKit
open LexM ExM Kit ExL ExP PsM PsT NmC Ps
set_option linter.unusedVariables false
def Boxz (W:World) (b:Nat):Prop:=W.heap[b]?=some (.cells #[.int .i64 0,.int .i64 0,.int .i64 0,.string ⟨#[]⟩,.string ⟨#[]⟩,.slice none 0 0] 50 (0,0))
theorem boxz_at (W:World):Boxz (W.alloc (.cells #[.int .i64 0,.int .i64 0,.int .i64 0,.string ⟨#[]⟩,.string ⟨#[]⟩,.slice none 0 0] 50)) W.heap.size:=World.alloc_heap_new W _
theorem boxz_keep {W W':World} {b:Nat} (h:Boxz W b) (hb:Below W.heap.size W W'):Boxz W' b:=(hb.block b (Array.getElem?_eq_some_iff.1 h).1).trans h
theorem boxz_grown {W W':World} {b P:Nat} (h:Boxz W b) (hb:W.grownBy W' (some P)) (hne:b ≠ P):Boxz W' b:=(hb.block b (Array.getElem?_eq_some_iff.1 h).1 (fun e => hne (by injection e))).trans h
def S6 (W:World) (B:Nat) (u0 u1 u2 u3 u4 u5:Value):World:=((((((W.setCell ⟨B,0,none⟩ u0).setCell ⟨B,1,none⟩ u1).setCell ⟨B,2,none⟩ u2).setCell ⟨B,3,none⟩ u3).setCell ⟨B,4,none⟩ u4).setCell ⟨B,5,none⟩ u5)
theorem s6_heap (W:World) (B b:Nat) (h:b ≠ B) (u0 u1 u2 u3 u4 u5:Value):(S6 W B u0 u1 u2 u3 u4 u5).heap[b]?=W.heap[b]?:=by
 unfold S6
 rw [Below.heap_setCell _ ⟨B,5,none⟩ _ b h,Below.heap_setCell _ ⟨B,4,none⟩ _ b h,Below.heap_setCell _ ⟨B,3,none⟩ _ b h,Below.heap_setCell _ ⟨B,2,none⟩ _ b h,Below.heap_setCell _ ⟨B,1,none⟩ _ b h,Below.heap_setCell _ ⟨B,0,none⟩ _ b h]
theorem set6_box {W:World} {B:Nat} {t0 t1 t2 t3 t4 t5:Value} {t:TypeId} (h:W.heap[B]?=some (.cells #[t0,t1,t2,t3,t4,t5] t (0,0))) (u0 u1 u2 u3 u4 u5:Value):(S6 W B u0 u1 u2 u3 u4 u5).heap[B]?=some (.cells #[u0,u1,u2,u3,u4,u5] t (0,0)):=by
 unfold S6
 have e1:=heap_setCell_same W B 0 _ _ u0 h
 have e2:=heap_setCell_same _ B 1 _ _ u1 e1
 have e3:=heap_setCell_same _ B 2 _ _ u2 e2
 have e4:=heap_setCell_same _ B 3 _ _ u3 e3
 have e5:=heap_setCell_same _ B 4 _ _ u4 e4
 have e6:=heap_setCell_same _ B 5 _ _ u5 e5
 rw [e6]; rfl
theorem s6_size (W:World) (B:Nat) (u0 u1 u2 u3 u4 u5:Value):(S6 W B u0 u1 u2 u3 u4 u5).heap.size=W.heap.size:=by unfold S6; simp only [sz_set]
theorem s6_grown (W:World) (B:Nat) (u0 u1 u2 u3 u4 u5:Value):W.grownBy (S6 W B u0 u1 u2 u3 u4 u5) (some B):=by
 unfold S6
 exact grown_trans (grown_trans (grown_trans (grown_trans (grown_trans (grown_set W B 0 u0) (grown_set _ B 1 u1)) (grown_set _ B 2 u2)) (grown_set _ B 3 u3)) (grown_set _ B 4 u4)) (grown_set _ B 5 u5)
theorem cells_of {W:World} {B:Nat} {t0 t1 t2 t3 t4 t5:Value} {t:TypeId} (h:W.heap[B]?=some (.cells #[t0,t1,t2,t3,t4,t5] t (0,0))):(∀ o,W.cell? ⟨B,o,none⟩=(#[t0,t1,t2,t3,t4,t5]:Array Value)[o]?)/\(∀ o,W.frozen? ⟨B,o,none⟩=false) :=
 ⟨fun o => by simp [World.cell?,h],fun o => by simp [World.frozen?,h]⟩
section
variable {w0:World} {P:Nat} {A:Option Addr} {c:Nat} {L:List Tk} {w w':World} {k:Nat}
def OkX (w0:World) (P:Nat) (A:Option Addr) (c:Nat) (L:List Tk) (w:World) (k:Nat) (x:Ex) (r:List Tk) (e:Ending) (w':World):Prop :=
 ∃ (d:Nd) (B:Option Addr) (m cp k':Nat),e=.returned (.agg #[.int .i64 d.op,.int .i64 d.k,.int .i64 d.n,.string d.s,.string d.nm,.slice B m cp])/\IsP (fun b => w.heap.size<=b) w' x d B m/\r=L.drop k'/\k<=k'/\St w0 P A c L w' k'/\w.grownBy w' (some P)
def BadX (P:Nat) (w:World) (r:List Tk) (e:Ending) (w':World):Prop:=∃ v,e=.panicked [{ v:=v,recovered:=false }]/\Wrong v r/\w.grownBy w' (some P)
theorem put_res {w1:World} {k':Nat} {x:Ex} {d:Nd} {B:Option Addr} {m cp:Nat} (hS:St w0 P A c L w k) (hP:w0.heap.size<=P) (hx:IsP (fun b => w.heap.size < b) w1 x d B m) (hS1:St w0 P A c L w1 k') (hbx:Boxz w1 w.heap.size) (hg:w.grownBy w1 (some P)) :
  IsP (fun b => w.heap.size<=b) (S6 w1 w.heap.size (.int .i64 d.op) (.int .i64 d.k) (.int .i64 d.n) (.string d.s) (.string d.nm) (.slice B m cp)) x d B m/\St w0 P A c L (S6 w1 w.heap.size (.int .i64 d.op) (.int .i64 d.k) (.int .i64 d.n) (.string d.s) (.string d.nm) (.slice B m cp)) k'/\w.grownBy (S6 w1 w.heap.size (.int .i64 d.op) (.int .i64 d.k) (.int .i64 d.n) (.string d.s) (.string d.nm) (.slice B m cp)) (some P):=by
 have hl:=hS.lt
 have hh:=fun b (h:b ≠ w.heap.size) => s6_heap w1 w.heap.size b h (.int .i64 d.op) (.int .i64 d.k) (.int .i64 d.n) (.string d.s) (.string d.nm) (.slice B m cp)
 have h0:=hS.below.size
 have h1:=hg.size
 have h6:=s6_grown w1 w.heap.size (.int .i64 d.op) (.int .i64 d.k) (.int .i64 d.n) (.string d.s) (.string d.nm) (.slice B m cp)
 refine ⟨IsP.keep (fun b hb _ => hh b (Nat.ne_of_gt hb)) (fun b hb _ => Nat.le_of_lt hb) _ _ _ _ hx,⟨(hh P (by omega)).trans hS1.prs,?_,hS1.le⟩,⟨h6.os.trans hg.os,h6.tape.trans hg.tape,h6.output.trans hg.output,Nat.le_trans hg.size h6.size,fun j hj hne => (hh j (by omega)).trans (hg.block j hj hne)⟩⟩
 exact hS1.below.grown (s6_grown w1 w.heap.size _ _ _ _ _ _) hS1.below.size (fun j e => by injection e with e; omega)
theorem leaf_x {t:Tk} {x:Ex} (h:leafN t=some x):x=.mk x.d []/\(x.d.s.size<=t.t.length/\x.d.nm.size<=t.s.length):=by
 have hz:∀ l:List UInt8,(ByteArray.mk l.toArray).size=l.length:=fun l => by simp [ByteArray.size]
 unfold leafN at h
 split at h
 ·injection h with h; subst h; exact ⟨rfl,Nat.le_of_eq (hz _),Nat.zero_le _⟩
 ·split at h
  ·injection h with h; subst h; exact ⟨rfl,Nat.zero_le _,Nat.zero_le _⟩
  ·split at h
   ·injection h with h; subst h; exact ⟨rfl,Nat.zero_le _,Nat.zero_le _⟩
   ·split at h
    ·injection h with h; subst h; exact ⟨rfl,Nat.zero_le _,Nat.le_of_eq (hz _)⟩
    ·cases h
def Small (L:List Tk):Prop:=∀ t ∈ L,t.s.length<=1000/\t.t.length<=1000
set_option maxHeartbeats 4000000 in
theorem single_end (hE:Env w0 P A L) (hS:St w0 P A c L w L.length):Calls Tryz.prog 256 #[.pointer (some ⟨P,0,none⟩)] w (BadX P w []):=by
 have hS1:=hS.keep (b_new w (.cells #[.int .i64 0,.int .i64 0,.int .i64 0,.string ⟨#[]⟩,.string ⟨#[]⟩,.slice none 0 0] 50))
 obtain ⟨h0,h1⟩:=hS.at
 have hl:=hS.lt
 have ht:=fun m => throw_c hE (hS1.drew m)
 have HT:=Lib.hid ht
 have i0:((L.length:Int) == (L.length:Int))=true:=by simp
 clear ht hS1 hS
 go_enter Tryz.func256,Tryz.ntmps256
 go_wp2_with fail
 go_quiet (fail)
 go_wp2_with fail
 refine (HT.out _).mono ?_
 rintro e w1 ⟨v,rfl,hw,m,rfl⟩
 rw [List.drop_length] at hw
 have HW:=Lib.hid hw
 clear hw
 go_wp2_with fail
 exact ⟨rfl,v,rfl,HW.out,grown_below (b_drewN (b_new _ _) _) _⟩
set_option maxHeartbeats 8000000 in
set_option maxRecDepth 100000 in
theorem single_any (hE:Env w0 P A L) (hS:St w0 P A c L w k) (hk:k < L.length) (b:Bool) (x:Ex) (hx:(b=true/\leafN L[k]=some x) ∨ (b=false/\leafN L[k]=none/\x=.mk ⟨0,0,0,⟨#[]⟩,⟨#[]⟩⟩ [])) (hsm:Small L) :
  Calls Tryz.prog 256 #[.pointer (some ⟨P,0,none⟩)] w fun e w' => (b=true->OkX w0 P A c L w k x (L.drop (k + 1)) e w')/\(b=false->BadX P w (L.drop k) e w'):=by
 have hx0:x=.mk x.d []/\x.d.s.size<=1000/\x.d.nm.size<=1000:=by
  rcases hx with ⟨_,h⟩ | ⟨_,_,rfl⟩
  ·have h1:=leaf_x h
   have h2:=hsm L[k] (List.getElem_mem _)
   exact ⟨h1.1,by omega,by omega⟩
  ·exact ⟨rfl,Nat.zero_le _,Nat.zero_le _⟩
 obtain ⟨d,rfl⟩:∃ d,x=.mk d []:=⟨_,hx0.1⟩
 have hlf:∀ W,Below w0.heap.size w0 W->Calls Tryz.prog 266 #[tkV L[k]] W fun e w' => e=.returned (.tuple #[.agg #[.int .i64 d.op,.int .i64 d.k,.int .i64 d.n,.string d.s,.string d.nm,.slice none 0 0],.bool b])/\Below W.heap.size W w':=fun W hb => by
  refine (hE.leaf L[k] (List.getElem_mem _) W hb).mono ?_
  rintro e w' ⟨h,hb⟩
  refine ⟨?_,hb⟩
  rcases hx with ⟨rfl,h1⟩ | ⟨rfl,h1,h2⟩
  ·rcases h with ⟨y,h3,h4⟩ | ⟨h3,_⟩
   ·rw [h1] at h3; injection h3 with h3; subst h3; exact h4
   ·rw [h1] at h3; cases h3
  ·rcases h with ⟨y,h3,_⟩ | ⟨_,h4⟩
   ·rw [h1] at h3; cases h3
   ·injection h2 with h2; subst h2; exact h4
 have hsz:=hx0.2
 obtain ⟨T,hT⟩:∃ T,L[k]=T:=⟨_,rfl⟩
 have hd:L.drop k=T :: L.drop (k + 1):=by rw [List.drop_eq_getElem_cons hk,hT]
 rw [hT] at hlf
 unfold tkV at hlf
 have hS1:=hS.keep (b_new w (.cells #[.int .i64 0,.int .i64 0,.int .i64 0,.string ⟨#[]⟩,.string ⟨#[]⟩,.slice none 0 0] 50))
 obtain ⟨g,hA,c0,c1,c2,c3,c4,c5⟩:=tok_cells hE hS hk
 rw [hT] at c0 c1 c2 c3 c4 c5
 subst hA
 obtain ⟨h0,h1⟩:=hS.at
 have hgl:=cell_ltP c0
 have hl:=hS.lt
 have i0:((k:Int) == (L.length:Int))=false:=beq_eq_false_iff_ne.2 (by omega)
 have i1:(k:Int) < (L.length:Int):=by omega
 have i2:(0:Int)<=(k:Int):=by omega
 have i3:((k:Int)).toNat=k:=by omega
 have hw:IntKind.i64.wrap ((k:Int) + 1)=(k:Int) + 1:=IntWalk.i64_in _ (by have:=hE.len; omega)
 have HLf:=Lib.hid hlf
 have HS:=Lib.hid hS
 have HE:=Lib.hid hE
 clear hlf hS1 hS hT hx hx0
 go_enter Tryz.func256,Tryz.ntmps256
 go_wp2_with fail
 go_quiet (fail)
 go_upto_region 3 with fail
 obtain ⟨W1,hW1⟩:∃ V,(w.alloc (.cells #[.int .i64 0,.int .i64 0,.int .i64 0,.string ⟨#[]⟩,.string ⟨#[]⟩,.slice none 0 0] 50)).drewN nq=V:=⟨_,rfl⟩
 have hbW:Below w.heap.size w W1:=by rw [← hW1]; exact b_drewN (b_new _ _) _
 have hbz:Boxz W1 w.heap.size:=by rw [← hW1]; exact boxz_at w
 have hcl:∀ V,Below W1.heap.size W1 V->V.cell? ⟨P,0,none⟩=some (.slice (some ⟨g,0,none⟩) L.length c)/\V.cell? ⟨P,1,none⟩=some (.int .i64 (k:Int))/\V.cell? ⟨g,k * 6,none⟩=some (.int .i64 T.kind)/\V.cell? ⟨g,k * 6 + 1,none⟩=some (.int .i64 T.pos)/\V.cell? ⟨g,k * 6 + 2,none⟩=some (.string ⟨T.s.toArray⟩)/\V.cell? ⟨g,k * 6 + 3,none⟩=some (.int .i64 T.vk)/\V.cell? ⟨g,k * 6 + 4,none⟩=some (.int .i64 T.n)/\V.cell? ⟨g,k * 6 + 5,none⟩=some (.string ⟨T.t.toArray⟩):=fun V hV => by
  have hb:=hbW.trans (hV.mono hbW.size)
  exact ⟨(hb.cell (p:=⟨P,0,none⟩) hl).trans h0,(hb.cell (p:=⟨P,1,none⟩) hl).trans h1,(hb.cell (p:=⟨g,k * 6,none⟩) hgl).trans c0,(hb.cell (p:=⟨g,k * 6 + 1,none⟩) hgl).trans c1,(hb.cell (p:=⟨g,k * 6 + 2,none⟩) hgl).trans c2,(hb.cell (p:=⟨g,k * 6 + 3,none⟩) hgl).trans c3,(hb.cell (p:=⟨g,k * 6 + 4,none⟩) hgl).trans c4,(hb.cell (p:=⟨g,k * 6 + 5,none⟩) hgl).trans c5⟩
 have hlf:∀ W,Below W1.heap.size W1 W->_:=fun W hV => HLf.out W (HS.out.below.trans ((hbW.trans (hV.mono hbW.size)).mono HS.out.below.size))
 have HLf2:=Lib.hid hlf
 have HCells:=Lib.hid hcl
 have HBW:=Lib.hid hbW
 have HBz:=Lib.hid hbz
 rw [hW1]
 clear hW1 hlf hcl hbW hbz HLf h0 h1 c0 c1 c2 c3 c4 c5 hE
 go_cut [3,4] (fun s3 s4 wx => ∃ B:Nat,s3=.pointer (some ⟨B,0,none⟩)/\s4=.bool b/\wx.heap[B]?=some (.cells #[.int .i64 d.op,.int .i64 d.k,.int .i64 d.n,.string d.s,.string d.nm,.slice none 0 0] 50 (0,0))/\Below W1.heap.size W1 wx)
 case first =>
  have hbl:=Below.refl W1.heap.size W1
  obtain ⟨h0,h1,c0,c1,c2,c3,c4,c5⟩:=HCells.out W1 hbl
  have hset:∀ (U:World) (u0 u1 u2 u3 u4 u5:Value),Below W1.heap.size W1 U->∀ V,V=S6 U W1.heap.size u0 u1 u2 u3 u4 u5->V.cell? ⟨P,0,none⟩=some (.slice (some ⟨g,0,none⟩) L.length c)/\V.cell? ⟨P,1,none⟩=some (.int .i64 (k:Int))/\V.cell? ⟨g,k * 6,none⟩=some (.int .i64 T.kind)/\V.cell? ⟨g,k * 6 + 1,none⟩=some (.int .i64 T.pos)/\V.cell? ⟨g,k * 6 + 2,none⟩=some (.string ⟨T.s.toArray⟩)/\V.cell? ⟨g,k * 6 + 3,none⟩=some (.int .i64 T.vk)/\V.cell? ⟨g,k * 6 + 4,none⟩=some (.int .i64 T.n)/\V.cell? ⟨g,k * 6 + 5,none⟩=some (.string ⟨T.t.toArray⟩):=fun U u0 u1 u2 u3 u4 u5 hU V hV => by
   subst hV
   have hP1:P < W1.heap.size:=cell_ltP h0
   have hg1:g < W1.heap.size:=cell_ltP c0
   have hh:=fun b (hb:b < W1.heap.size) => s6_heap U W1.heap.size b (by omega) u0 u1 u2 u3 u4 u5
   obtain ⟨k0,k1,k2,k3,k4,k5,k6,k7⟩:=HCells.out U hU
   exact ⟨(World.cell?_of_block (a:=⟨P,0,none⟩) (hh P hP1)).trans k0,(World.cell?_of_block (a:=⟨P,1,none⟩) (hh P hP1)).trans k1,(World.cell?_of_block (a:=⟨g,k * 6,none⟩) (hh g hg1)).trans k2,(World.cell?_of_block (a:=⟨g,k * 6 + 1,none⟩) (hh g hg1)).trans k3,(World.cell?_of_block (a:=⟨g,k * 6 + 2,none⟩) (hh g hg1)).trans k4,(World.cell?_of_block (a:=⟨g,k * 6 + 3,none⟩) (hh g hg1)).trans k5,(World.cell?_of_block (a:=⟨g,k * 6 + 4,none⟩) (hh g hg1)).trans k6,(World.cell?_of_block (a:=⟨g,k * 6 + 5,none⟩) (hh g hg1)).trans k7⟩
  have HSet:=Lib.hid hset
  clear hset
  go_region_held3 (fun V => V.cell? ⟨P,0,none⟩=some (.slice (some ⟨g,0,none⟩) L.length c)/\V.cell? ⟨P,1,none⟩=some (.int .i64 (k:Int))/\V.cell? ⟨g,k * 6,none⟩=some (.int .i64 T.kind)/\V.cell? ⟨g,k * 6 + 1,none⟩=some (.int .i64 T.pos)/\V.cell? ⟨g,k * 6 + 2,none⟩=some (.string ⟨T.s.toArray⟩)/\V.cell? ⟨g,k * 6 + 3,none⟩=some (.int .i64 T.vk)/\V.cell? ⟨g,k * 6 + 4,none⟩=some (.int .i64 T.n)/\V.cell? ⟨g,k * 6 + 5,none⟩=some (.string ⟨T.t.toArray⟩)) (first | (with_reducible exact HCells.out _ hbl) | (with_reducible exact HCells.out _ (b_drew hbl)) | (with_reducible exact HCells.out _ (b_more hbl _)) | (with_reducible exact HCells.out _ (b_more (b_drew hbl) _)) | (with_reducible exact HCells.out _ (b_drew (b_more hbl _))) | (with_reducible exact HSet.out _ _ _ _ _ _ _ hbl _ rfl))
   (first | (go_at_call 266; (with_reducible refine (HLf2.out _ ?_).mono ?_); (first | exact hbl | exact (b_drew hbl) | exact (b_more hbl _) | exact (b_more (b_drew hbl) _) | exact (b_drew (b_more hbl _))); rintro e wz ⟨rfl,hbn⟩; have hbl:Below W1.heap.size W1 wz:=(by first | exact hbl.trans (hbn.mono (hbl).size) | exact (b_drew hbl).trans (hbn.mono (b_drew hbl).size) | exact (b_more hbl _).trans (hbn.mono (b_more hbl _).size) | exact (b_more (b_drew hbl) _).trans (hbn.mono (b_more (b_drew hbl) _).size) | exact (b_drew (b_more hbl _)).trans (hbn.mono (b_drew (b_more hbl _)).size)); (first | (have bx:Boxz wz W1.heap.size:=boxz_keep (by first | exact boxz_at W1 | exact boxz_at W1.drew) hbn; have pb:=set6_box bx (.int .i64 d.op) (.int .i64 d.k) (.int .i64 d.n) (.string d.s) (.string d.nm) (.slice none 0 0); obtain ⟨x1,x2⟩:=cells_of bx; have x3:=(Array.getElem?_eq_some_iff.1 bx).1; have pg:=(s6_grown wz W1.heap.size (.int .i64 d.op) (.int .i64 d.k) (.int .i64 d.n) (.string d.s) (.string d.nm) (.slice none 0 0)); have pb2:=hbl.grown pg hbl.size (fun j e => by injection e with e; omega)) | skip)))
  all_goals (go_wp2_with fail; go_meet)
  all_goals (first | (unfold S6 at pb pb2; with_reducible exact ⟨_,rfl,rfl,pb,pb2⟩) | (with_reducible exact ⟨_,rfl,rfl,World.alloc_heap_new _ _,b_more hbl _⟩))
 case rest =>
  obtain ⟨B,rfl,rfl,hB,hbl⟩:=hcut
  have hSc:=(HS.out.keep HBW.out).keep hbl
  have hbzc:=boxz_keep HBz.out hbl
  have hBP:B ≠ P:=fun e => by
   have h1:=hSc.prs
   rw [← e,hB] at h1
   injection h1 with h1; injection h1 with h1; simp at h1
  have hWP:w.heap.size ≠ P:=by omega
  have hgc:w.grownBy wc (some P):=grown_below (HBW.out.trans (hbl.mono HBW.out.size)) _
  have hlc:=hSc.lt
  obtain ⟨h0,h1⟩:=hSc.at
  have hfz:=hSc.frozen 1
  cases b with
  | false =>
   obtain ⟨y1,y2⟩:=cells_of hB
   have ht:=throw_c HE.out hSc
   have HT:=Lib.hid ht
   have HGc:=Lib.hid hgc
   clear ht hgc hbzc hSc hB hbl h0 h1 hfz
   go_wp2_with fail
   refine HT.out.mono ?_
   rintro e w1 ⟨v,rfl,hw1,m,rfl⟩
   have HW:=Lib.hid hw1
   clear hw1
   go_wp2_with fail
   exact ⟨rfl,v,rfl,by first | exact HW.out | (rw [← hd]; exact HW.out),grown_trans HGc.out (grown_below (b_drewN (Below.refl _ _) _) _)⟩
  | true =>
   have hS2:=hSc.took HE.out.hP hk
   have hB2:(wc.setCell ⟨P,1,none⟩ (.int .i64 ((k:Int) + 1))).heap[B]?=_:=(Below.heap_setCell wc ⟨P,1,none⟩ _ B hBP).trans hB
   have hZ2:(wc.setCell ⟨P,1,none⟩ (.int .i64 ((k:Int) + 1))).heap[w.heap.size]?=_:=(Below.heap_setCell wc ⟨P,1,none⟩ _ w.heap.size hWP).trans hbzc
   obtain ⟨y1,y2⟩:=cells_of hB2
   obtain ⟨z1,z2⟩:=cells_of hZ2
   have hx2:IsP (fun b => w.heap.size < b) (wc.setCell ⟨P,1,none⟩ (.int .i64 ((k:Int) + 1))) (.mk d []) d none 0:=isP_mk.2 ⟨rfl,rfl,⟨Nat.zero_le _,by have:=hsz.1; unfold maxLen; exact Nat.le_trans this (by decide),by have:=hsz.2; unfold maxLen; exact Nat.le_trans this (by decide)⟩,fun j hj => absurd hj (by simp)⟩
   have hend:=put_res (cp:=0) HS.out HE.out.hP hx2 hS2 hZ2 (grown_trans hgc (grown_set wc P 1 _))
   unfold S6 at hend
   have HEnd:=Lib.hid hend
   clear hend hx2 hZ2 hB2 hS2 hgc hbzc hSc hB hbl
   go_wp2_with fail
   refine bodyPost_ret (v:=.agg #[.int .i64 d.op,.int .i64 d.k,.int .i64 d.n,.string d.s,.string d.nm,.slice none 0 0]) (by simp [results,Tryz.results256,go_sem,z1]) rfl ?_
   obtain ⟨e1,e2,e3⟩:=HEnd.out
   exact ⟨d,none,0,0,k + 1,rfl,e1,rfl,Nat.le_succ _,e2,e3⟩
end
end PsR
end Go.Proofs.YtdefaeieiaegaaaGreatDoor
