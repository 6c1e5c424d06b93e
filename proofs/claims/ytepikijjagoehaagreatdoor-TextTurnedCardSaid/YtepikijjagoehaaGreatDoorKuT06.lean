/- Builder Show Print Printed ShowRef PrintTop ParsMath PsLex: what these laws name of them. -/
import Derived.Test.YtepikijjagoehaaGreatDoorChecked
import Derived.Shelf.Strings.Builder1
import Derived.WalkKit
import Derived.ProofKit
import Derived.Outline
import Derived.Shelf.Strings.Builder2
import Derived.Shelf.Strings.OnBuilder
import Derived.Shelf.Small.Bits
import Derived.Shelf.Small.Strs
import Derived.Shelf.Small.Wraps
import Derived.Shelf.Strings.BuilderF
import Derived.Shelf.Strings.BuilderK
import Derived.Shelf.Strconv.Atoi
import Derived.Shelf.Strconv.Itoa0
import Derived.Shelf.Strconv.Itoa1
import Derived.Shelf.LaysM
import Derived.Shelf.Strconv.Itoa2
import Derived.Shelf.Strconv.Itoa3
import Derived.Shelf.Strconv.AtoiErrFast
import Derived.Shelf.Strconv.ParseIntEmpty
import Derived.Shelf.Strconv.AtoiFail
import Derived.Shelf.Strconv.Clone
import Derived.Shelf.Strconv.SyntaxError
import Derived.Shelf.LaysC
import Derived.Shelf.Strconv.ToError
import Derived.Shelf.Strconv.Lower
import Derived.Shelf.Strconv.ParseUint10
import Derived.Shelf.Strconv.ParseUint10Empty
import Derived.Shelf.Strconv.ParseUint10Any
import Derived.Shelf.Strconv.ParseInt10
import Derived.Shelf.Strconv.AtoiLong
import Derived.Shelf.Strconv.AtoiInnerAll
import Derived.Shelf.Strconv.RangeError
import Derived.Shelf.Strconv.ToErrorRange
import Derived.Shelf.Strconv.AtoiAll
import Derived.Shelf.Strconv.ErrVarAll
import Derived.Shelf.Strings.Search1
import Derived.Shelf.Strings.Search2
import Derived.Shelf.Strings.Search3
import Derived.Shelf.Strings.Cut
import Derived.Shelf.Strings.Count
import Derived.Shelf.Strings.Shaped
import Derived.Shelf.Strings.Prefix
import Derived.Shelf.Strings.Split
import Derived.Shelf.Bits.Mul64
import Derived.Shelf.Unicode.DecodeSlow
import Derived.Shelf.Slices.Turned
import Derived.Shelf.Slices.Equal
import Derived.Shelf.Slices.Empties2
import Derived.Ground.SlgfProg
import Derived.Shelf.SlicesE.IndexFunc
import Derived.Ground.SlsfProg
import Derived.Shelf.SlSortCmp.Insertion
import Derived.Ground.SlgmProg
import Derived.Shelf.SortM.Plain
import Derived.Shelf.SortM.SortNone
import Derived.Test.YtepikijjagoehaaGreatDoorProg
import Derived.Lib.AppendIntMem
import Derived.Lib.LaidTab
import Derived.Lib.ItoaLen
import GoSem.Claim
import Derived.Lib.UnsafeStr
import Derived.Lib.ItoaNum
import Derived.Lib.Small
import Derived.Lib.Bytealg
import Derived.Lib.AtoiAll
import Derived.WalkSpells
import Derived.Lib.Hide
import Derived.WalkLawsBesides
import Derived.Deep.QuietTactic
import Derived.BigQuiet
import Derived.WalkSmall
import Derived.Below
import Derived.Deep.Draws
import Derived.Deep.RegionHeld3
import Derived.RangeFuncNested
import Derived.RangeFuncBound
import Derived.RangeFuncCalls
import Derived.RangeFuncLeaves
import Derived.Shelf.Abstract
import Derived.Shelf.RegionOpen
import Derived.OwnWalkIn
import Derived.TacticsInMore
import Derived.LoopNIn
import Derived.LoopIn
import Derived.Deep.RegionWith
import Derived.ChangeOld
import Derived.Deep.DrawnRows
import Derived.LaidMore
import Derived.RangeFuncBox
import Derived.IntWalk
import Derived.Laws.OwnMore
import Derived.OwnWalk
import Derived.ChangeAlike
import Derived.LaidLaws
import Derived.ChangeArms
import Derived.WideShapes
import Derived.Deep.AppendLies
import Derived.Deep.RegionLaw
import Derived.RegionTactic
import Derived.BigRegion
import Derived.Laws.Pointers
import Derived.Lib.ConvBytes
import Derived.Lib.AtoiErrMem
import Derived.Laws.IdiomStrings
import Derived.Deep.LoopGhost
import Derived.Lib.AtoiTie
import Derived.Lib.ItoaMem
import Derived.Deep.DeepCutAuto
import Derived.Deep.CutBlock
import Derived.Test.YtepikijjagoehaaGreatDoorKuT01
import Derived.Test.YtepikijjagoehaaGreatDoorKuT03
import Derived.Test.YtepikijjagoehaaGreatDoorKuT04
import Derived.Test.YtepikijjagoehaaGreatDoorKuT05
namespace Go.Proofs.YtepikijjagoehaaGreatDoor
set_option linter.unusedVariables false
namespace Bld
open Go.RowKit
set_option linter.unusedVariables false
theorem sizeB:(Tryz.prog.info? 97).map (·.size)=some 2:=by kernel_rfl
theorem infoByte:(Tryz.prog.info? 5).map (fun i => (i.zero,i.size,i.bytes))=some (some (.int .u8 0),1,1):=by kernel_rfl
set_option maxRecDepth 100000 in
theorem check_used (b:Nat) (w:World) (h0:w.cell? ⟨b,0,none⟩=some (.pointer (some ⟨b,0,none⟩))) :
  Calls Tryz.prog 102 #[.pointer (some ⟨b,0,none⟩)] w fun e w' => e=.returned (.tuple #[])/\w=w':=by
 obtain ⟨j,hj,_⟩:=Option.map_eq_some_iff.1 sizeB
 go_enter Tryz.func102,Tryz.ntmps102
 go_wp2
 rw [Lib.run_neq_ptr_same w _ Tryz.underlying95 hj]
 go_wp2
 go_end0
 exact ⟨rfl,rfl⟩
theorem liesB:liesAt Tryz.prog Tryz.prog.depth 97 (2 / Tryz.prog.cellsOf 97) 0 97 1=true:=by kernel_rfl
set_option maxRecDepth 100000 in
theorem check_fresh (b:Nat) (w:World) (h0:w.cell? ⟨b,0,none⟩=some (.pointer none)) (hsh:w.shape? b=some (97,2)) (hfz:w.frozen? ⟨b,0,none⟩=false) :
  Calls Tryz.prog 102 #[.pointer (some ⟨b,0,none⟩)] w fun e w' => e=.returned (.tuple #[])/\w.setCell ⟨b,0,none⟩ (.pointer (some ⟨b,0,none⟩))=w':=by
 obtain ⟨j,hj,hjs⟩:=Option.map_eq_some_iff.1 sizeB
 go_enter Tryz.func102,Tryz.ntmps102
 go_wp2
 rw [Lib.run_to_unsafe w ⟨b,0,none⟩ Tryz.underlying95 Tryz.underlying213 hj (by rw [hjs]; decide) hsh (Nat.zero_lt_succ 1)]
 simp only [Result.andThen]
 rw [Oper.upon_value]
 go_wp2
 rw [run_callFunc_extern Tryz.func163 (by kernel_rfl) (by kernel_rfl) (by kernel_rfl) (e:=Extern.AbiNoEscape.same) (by kernel_rfl)]
 rw [Lib.run_noEscape]
 simp only [Result.andThen]
 rw [Oper.upon_value]
 go_wp2
 rw [Lib.run_from_unsafe w ⟨b,0,none⟩ Tryz.underlying213 Tryz.underlying95 hj hsh liesB]
 simp only [Result.andThen]
 rw [Oper.upon_value]
 go_wp2
 go_end0
 exact ⟨rfl,rfl⟩
theorem copyCheck (B b:Nat) (bs:List Value) (w:World) (h:Lib.IsBuilder 97 5 B b bs w) :
  Calls Tryz.prog 102 #[.pointer (some ⟨b,0,none⟩)] w fun e w' => e=.returned (.tuple #[])/\(Lib.BuilderAt 97 5 B b (.pointer (some ⟨b,0,none⟩)) bs w'/\Below B w w'):=by
 rcases h with h | h
 ·refine (check_fresh b w h.cell0 h.shape h.frozen0).mono ?_
  rintro e w' ⟨rfl,rfl⟩
  exact ⟨rfl,h.used _,(Below.refl B w).setCell (p:=⟨b,0,none⟩) h.1 _⟩
 ·refine (check_used b w h.cell0).mono ?_
  rintro e w' ⟨rfl,rfl⟩
  exact ⟨rfl,h,Below.refl B _⟩
set_option maxHeartbeats 1000000 in
set_option maxRecDepth 100000 in
theorem writeByte (B b:Nat) (bs:List Value) (c:Int) (w:World) (h:Lib.IsBuilder 97 5 B b bs w) (hlen:bs.length + 1<=140737488355328) (hBw:B<=w.heap.size) :
  Calls Tryz.prog 292 #[.pointer (some ⟨b,0,none⟩),.int .u8 c] w fun e w' => e=.returned .nilIface/\Lib.IsBuilder 97 5 B b (bs ++ [.int .u8 c]) w'/\Below B w w':=by
 obtain ⟨i0,hi,hz0,hz1,hz2⟩:=info_parts infoByte
 go_enter Tryz.func292,Tryz.ntmps292
 go_wp2_with (go_at_call 102; refine (copyCheck B b bs _ h).mono ?_)
 rintro e w1 ⟨rfl,h1,hb1⟩
 obtain ⟨hB,v,hbk,hown,hne⟩:=h1
 have c0:w1.cell? ⟨b,0,none⟩=some (.pointer (some ⟨b,0,none⟩)):=by rw [Lib.cell_of_heap hbk]; rfl
 have c1:w1.cell? ⟨b,1,none⟩=some v:=by rw [Lib.cell_of_heap hbk]; rfl
 go_wp2_with (at_builtin; refine wpList_append_own _ rfl _ _ 92 rfl B 5 i0 (.int .u8 0) 1 1 Tryz.underlying92 hi hz0 hz1 hz2 rfl (by decide) _ _ _ rfl (hown.alloc _) ⟨w1.heap.size,0,none⟩ 1 1 [.int .u8 c] rfl rfl ?c1 ?c2 ?c3 ?c4 ?c5 ?_)
 case c1 =>
  intro j u hj
  match j,hj with
  | 0,hj => simp at hj; subst hj; simp [Addr.add]
 case c2 => intro u hu; simp at hu; subst hu; rfl
 case c3 => unfold maxLen; omega
 case c4 => omega
 case c5 => have:=hb1.size; simp; omega
 intro v' w2 hown' hgrow _
 have hlt:b < w1.heap.size:=by
  rcases Nat.lt_or_ge b w1.heap.size with h' | h'
  ·exact h'
  ·simp [Array.getElem?_eq_none h'] at hbk
 have hb2:w2.heap[b]?=some (.cells #[.pointer (some ⟨b,0,none⟩),v] 97 (0,0)):=by
  rw [hgrow.block b (by simp; omega) (fun e => hne e.symm),Lib.alloc_old w1 _ b hlt]
  exact hbk
 have d0:w2.cell? ⟨b,0,none⟩=some (.pointer (some ⟨b,0,none⟩)):=by rw [Lib.cell_of_heap hb2]; rfl
 have d1:w2.cell? ⟨b,1,none⟩=some v:=by rw [Lib.cell_of_heap hb2]; rfl
 have f1:w2.frozen? ⟨b,1,none⟩=false:=Lib.frozen_of_heap hb2 1
 obtain ⟨g,cap,rfl⟩:∃ g cap,v'=.slice (some ⟨g,0,none⟩) (bs.length + 1) cap:=by
  rcases hown'.2 with ⟨_,h0⟩ | ⟨g,cap,cur,hv,_⟩
  ·omega
  ·exact ⟨g,cap,hv⟩
 go_wp2
 go_ret
 refine ⟨rfl,.inr ?_,?_⟩
 ·exact Lib.BuilderAt.put (T:=97) (e:=5) hB hb2 (bs':=bs ++ [.int .u8 c]) (by simpa using hown') (by decide)
 ·exact ((hb1.alloc (by have:=hb1.size; omega) _).grown hgrow (by have:=hb1.size; simp; omega) (fun k hk => (hown.lt k hk).1)).setCell (p:=⟨b,1,none⟩) hB _
theorem string (B b:Nat) (l:List UInt8) (w:World) (h:Lib.IsBuilder 97 5 B b (Lib.byteCells l) w) (hBw:B<=w.heap.size) :
  Calls Tryz.prog 53 #[.pointer (some ⟨b,0,none⟩)] w fun e w' => e=.returned (.string ⟨l.toArray⟩)/\Below B w w' :=
 Tryz.Builder_String_any B b l w h hBw
end Bld
namespace Show
open Go.RowKit
open NumM ValM ShowM Kit
set_option linter.unusedVariables false
structure QInv (w:World) (s:ByteArray) (k:Nat) (wr:World):Prop where
 le:k<=s.size
 isB:Lib.IsBuilder 97 5 w.heap.size w.heap.size (Lib.byteCells (34 :: escL (s.data.toList.take k))) wr
 below:Below w.heap.size w wr
theorem quoted_any (s:ByteArray) (w:World) (hs:s.size<=1000) :
  Calls Tryz.prog 257 #[.string s] w fun e w' => e=.returned (.string ⟨(quoteL s.data.toList).toArray⟩)/\Below w.heap.size w w':=by
 have H0:=Lib.hid (Lib.fresh_isBuilder 97 5 w)
 go_enter Tryz.func257,Tryz.ntmps257
 go_wp2_with fail
 refine (Bld.writeByte w.heap.size w.heap.size [] 34 _ H0.out (by simp) (by simp)).mono ?_; rintro e w1 ⟨rfl,hB,hb⟩
 have h1:QInv w s 0 w1:=⟨Nat.zero_le _,by simpa [Lib.byteCells,escL] using hB,(b_new w _).trans hb⟩
 have H1:=Lib.hid h1
 clear hB hb h1
 go_wp2_with fail
 go_loopw [4] (fun i wr => ∃ k:Nat,i=.int .i64 k/\QInv w s k wr) (fun i _ => s.size - (intOf i).toNat)
 case atStart => exact ⟨0,rfl,H1.out⟩
 case round =>
  obtain ⟨k,rfl,hI⟩:=hrel
  have hle:=hI.le
  have hsz:=hI.below.size
  have hlen:=len_take s k hs
  have HI:=Lib.hid hI
  clear hI
  by_cases hlt:k < s.size
  ·have HS:=Lib.hid (escL_step s k hlt)
   by_cases h34:s[k]=34
   ·have t1:((s[k].toNat:Int) == 34)=true:=by rw [h34]; rfl
    have HC:=Lib.hid h34
    clear h34
    go_wp2_with fail
    refine (Bld.writeByte w.heap.size w.heap.size _ 92 _ HI.out.isB (by omega) hsz).mono ?_; rintro e w2 ⟨rfl,hB2,hb2⟩
    go_wp2_with fail
    refine (Bld.writeByte w.heap.size w.heap.size _ _ _ hB2 (by rw [List.length_append]; simp; omega) (Nat.le_trans hsz hb2.size)).mono ?_; rintro e w3 ⟨rfl,hB3,hb3⟩
    have hN:QInv w s (k + 1) w3:=⟨hlt,by
     have e:Lib.byteCells (34 :: escL (s.data.toList.take k)) ++ [Value.int .u8 92] ++ [Value.int .u8 (s[k].toNat:Int)]=Lib.byteCells (34 :: escL (s.data.toList.take (k + 1))):=by
      rw [HS.out,if_pos (.inl HC.out)]; simp [Lib.byteCells]
     rw [← e]; exact hB3,HI.out.below.trans (hb2.trans hb3)⟩
    have HN:=Lib.hid hN
    clear hN hB2 hB3 hb2 hb3
    go_wp2
    go_roundw
    case rel => exact ⟨k + 1,by go_num,HN.out⟩
    case measure => simp [intOf]; omega
   ·by_cases h92:s[k]=92
    ·have t1:((s[k].toNat:Int) == 34)=false:=by rw [h92]; rfl
     have t2:((s[k].toNat:Int) == 92)=true:=by rw [h92]; rfl
     have HC:=Lib.hid h92
     clear h92 h34
     go_wp2_with fail
     refine (Bld.writeByte w.heap.size w.heap.size _ 92 _ HI.out.isB (by omega) hsz).mono ?_; rintro e w2 ⟨rfl,hB2,hb2⟩
     go_wp2_with fail
     refine (Bld.writeByte w.heap.size w.heap.size _ _ _ hB2 (by rw [List.length_append]; simp; omega) (Nat.le_trans hsz hb2.size)).mono ?_; rintro e w3 ⟨rfl,hB3,hb3⟩
     have hN:QInv w s (k + 1) w3:=⟨hlt,by
      have e:Lib.byteCells (34 :: escL (s.data.toList.take k)) ++ [Value.int .u8 92] ++ [Value.int .u8 (s[k].toNat:Int)]=Lib.byteCells (34 :: escL (s.data.toList.take (k + 1))):=by
       rw [HS.out,if_pos (.inr HC.out)]; simp [Lib.byteCells]
      rw [← e]; exact hB3,HI.out.below.trans (hb2.trans hb3)⟩
     have HN:=Lib.hid hN
     clear hN hB2 hB3 hb2 hb3
     go_wp2
     go_roundw
     case rel => exact ⟨k + 1,by go_num,HN.out⟩
     case measure => simp [intOf]; omega
    ·have t1:((s[k].toNat:Int) == 34)=false:=by
      rw [beq_eq_false_iff_ne]; intro g; exact h34 ((byte_eq s[k] 34 (by decide)).2 (by omega))
     have t2:((s[k].toNat:Int) == 92)=false:=by
      rw [beq_eq_false_iff_ne]; intro g; exact h92 ((byte_eq s[k] 92 (by decide)).2 (by omega))
     have HC:=Lib.hid (And.intro h34 h92)
     clear h92 h34
     go_wp2_with fail
     refine (Bld.writeByte w.heap.size w.heap.size _ _ _ HI.out.isB (by omega) hsz).mono ?_; rintro e w3 ⟨rfl,hB3,hb3⟩
     have hN:QInv w s (k + 1) w3:=⟨hlt,by
      have e:Lib.byteCells (34 :: escL (s.data.toList.take k)) ++ [Value.int .u8 (s[k].toNat:Int)]=Lib.byteCells (34 :: escL (s.data.toList.take (k + 1))):=by
       rw [HS.out,if_neg (by intro g; rcases g with g | g; exact HC.out.1 g; exact HC.out.2 g)]; simp [Lib.byteCells]
      rw [← e]; exact hB3,HI.out.below.trans hb3⟩
     have HN:=Lib.hid hN
     clear hN hB3 hb3
     go_wp2
     go_roundw
     case rel => exact ⟨k + 1,by go_num,HN.out⟩
     case measure => simp [intOf]; omega
  ·have e:=escL_all s k (by omega)
   go_wp2_with fail
   refine (Bld.writeByte w.heap.size w.heap.size _ 34 _ HI.out.isB (by omega) hsz).mono ?_; rintro e1 w2 ⟨rfl,hB2,hb2⟩
   have hB3:Lib.IsBuilder 97 5 w.heap.size w.heap.size (Lib.byteCells (quoteL s.data.toList)) w2:=by
    have e2:Lib.byteCells (34 :: escL (s.data.toList.take k)) ++ [Value.int .u8 34]=Lib.byteCells (quoteL s.data.toList):=by
     rw [e]; simp [Lib.byteCells,quoteL]
    rw [← e2]; exact hB2
   have H3:=Lib.hid hB3
   clear hB2 hB3 e
   go_wp2_with fail
   refine (Bld.string w.heap.size w.heap.size _ _ H3.out (Nat.le_trans hsz hb2.size)).mono ?_; rintro e1 w3 ⟨rfl,hb3⟩
   go_wp2_with fail
   go_ret
   exact ⟨rfl,HI.out.below.trans (hb2.trans hb3)⟩
def Pow (w : World) : Prop := Lib.TabIs Tryz.prog w "internal/strconv.uint64pow10" .u64 Lib.pow10Tab
theorem Pow.below {w w':World} (h:Pow w) (hb:Below w.heap.size w w'):Pow w':=Lib.tabBelow_of_tabIs h w' hb
theorem itoa_any (n:Int) (h0:-9223372036854775808<=n) (h1:n<=9223372036854775807) (w:World) (hp:Pow w) :
  Calls Tryz.prog 258 #[.int .i64 n] w fun e w' => e=.returned (.string ⟨(Lib.itoa n).toArray⟩)/\Below w.heap.size w w':=by
 refine (Tryz.strconv_Itoa n h0 h1 w hp).mono ?_
 rintro e w' ⟨rfl,k,os,rfl⟩
 exact ⟨rfl,Lib.below_grow _ _ (Nat.le_refl _) _ _⟩
theorem itoa_str (n:Int) (h0:-9223372036854775808<=n) (h1:n<=9223372036854775807):∃ t:ByteArray,t.size<=30/\Hid (t=⟨(Lib.itoa n).toArray⟩)/\∀ w:World,Pow w->Calls Tryz.prog 258 #[.int .i64 n] w fun e w' => e=.returned (.string t)/\Below w.heap.size w w':=by
 refine ⟨⟨(Lib.itoa n).toArray⟩,?_,rfl,fun w hp => itoa_any n h0 h1 w hp⟩
 have:=Lib.itoa_length_le n h0 h1
 show (Lib.itoa n).length<=30
 omega
theorem fbool_any (b:Bool) (w:World) :
  Calls Tryz.prog 256 #[.bool b] w fun e w' => e=.returned (.string ⟨(Lib.formatBool b).toArray⟩)/\w=w' :=
 (Tryz.strconv_FormatBool b w).mono fun _ _ h => ⟨h.1,h.2.symm⟩
theorem ret_str {a b:ByteArray} {e:Int} (h:a.data.toList=b.data.toList):Ending.returned (.tuple #[.string a,.int .i64 e])=.returned (.tuple #[.string b,.int .i64 e]):=by
 rw [show a=b from WideShapes.bytes_inj h]
theorem val_ok {k n:Int} {l:List UInt8} (h:valE k n l=0):numE k n=0/\strE k l=0:=by
 unfold valE at h
 by_cases g:numE k n=0
 ·rw [if_pos g] at h; exact ⟨g,h⟩
 ·rw [if_neg g] at h; exact absurd h g
theorem num_ok {k n:Int} (h:numE k n=0):(k=1/\-1099511627776<=n/\n<=1099511627776) ∨ (k=2/\(n=0 ∨ n=1)) ∨ (k=3/\n=0) ∨ (k=4/\n=0) ∨ (k=5/\1<=n/\n<=15):=by
 unfold numE at h
 by_cases h1:k=1
 ·rw [if_pos h1] at h
  by_cases g:okN n=true
  ·exact .inl ⟨h1,(okN_iff.1 g).1,(okN_iff.1 g).2⟩
  ·rw [if_neg g] at h; omega
 ·rw [if_neg h1] at h
  by_cases h2:k=2
  ·rw [if_pos h2] at h
   by_cases g:0<=n/\n<=1
   ·omega
   ·rw [if_neg g] at h; omega
  ·rw [if_neg h2] at h
   by_cases h3:k=3 ∨ k=4
   ·rw [if_pos h3] at h
    by_cases g:n=0
    ·omega
    ·rw [if_neg g] at h; omega
   ·rw [if_neg h3] at h
    by_cases h5:k=5
    ·rw [if_pos h5] at h
     by_cases g:1<=n/\n<=15
     ·omega
     ·rw [if_neg g] at h; omega
    ·rw [if_neg h5] at h; omega
theorem str_ok {l:List UInt8} (h:strE 3 l=0):l.length<=40/\cleanL l=true:=by
 unfold strE at h
 rw [if_pos rfl] at h
 by_cases g:40 < l.length
 ·rw [if_pos g] at h; omega
 ·rw [if_neg g] at h
  by_cases c:cleanL l=true
  ·exact ⟨by omega,c⟩
  ·rw [if_neg c] at h; omega
theorem show_bad (k n:Int) (s:ByteArray) (w:World) (h:valE k n s.data.toList ≠ 0) :
  Calls Tryz.prog 215 #[.agg #[.int .i64 k,.int .i64 n,.string s]] w fun e w' => e=.returned (.tuple #[.string ⟨#[]⟩,.int .i64 (valE k n s.data.toList)])/\Below w.heap.size w w':=by
 obtain ⟨q,hq⟩:∃ q:Int,valE k n s.data.toList=q:=⟨_,rfl⟩
 have hc:=fun W => Val.check_any k n s W
 rw [hq] at hc h ⊢
 have HC:=Lib.hid hc
 have hq0:(q != 0)=true:=bne_iff_ne.2 h
 clear hc hq h
 go_enter Tryz.func215,Tryz.ntmps215
 go_wp2_with fail
 refine (HC.out _).mono ?_; rintro e w1 ⟨rfl,hb1⟩
 go_wp2_with fail
 go_ret2
 exact ⟨rfl,b_then hb1⟩
theorem show_good (k n:Int) (s:ByteArray) (w:World) (h:valE k n s.data.toList=0) (hp:Pow w) :
  Calls Tryz.prog 215 #[.agg #[.int .i64 k,.int .i64 n,.string s]] w fun e w' => e=.returned (.tuple #[.string ⟨(showL k n s.data.toList).toArray⟩,.int .i64 0])/\Below w.heap.size w w':=by
 have hc:=fun W => Val.check_any k n s W
 rw [h] at hc
 have HC:=Lib.hid hc
 have HP:=Lib.hid hp
 obtain ⟨h1,h2⟩:=val_ok h
 clear hc h hp
 rcases num_ok h1 with ⟨rfl,g1,g2⟩ | ⟨rfl,g⟩ | ⟨rfl,rfl⟩ | ⟨rfl,rfl⟩ | ⟨rfl,g1,g2⟩
 ·clear h1 h2
  go_enter Tryz.func215,Tryz.ntmps215
  go_wp2_with fail
  refine (HC.out _).mono ?_; rintro e w1 ⟨rfl,hb1⟩
  obtain ⟨m0,m1,m2,y⟩:=box3 w.heap.size 1 n s hb1 (by simp) (by simp [go_sem]) (by simp [go_sem]) (by simp [go_sem])
  go_wp2_with fail
  refine (itoa_any n (by omega) (by omega) _ (HP.out.below (b_then hb1))).mono ?_; rintro e w2 ⟨rfl,hb2⟩
  go_wp2_with fail
  go_ret2
  exact ⟨rfl,b_trans (b_then hb1) hb2⟩
 ·clear h1 h2
  rcases g with rfl | rfl
  all_goals
   go_enter Tryz.func215,Tryz.ntmps215
   go_wp2_with fail
   refine (HC.out _).mono ?_; rintro e w1 ⟨rfl,hb1⟩
   obtain ⟨m0,m1,m2,y⟩:=box3 w.heap.size 2 _ s hb1 (by simp) (by simp [go_sem]) (by simp [go_sem]; rfl) (by simp [go_sem])
   go_wp2_with fail
   refine (fbool_any _ _).mono ?_; rintro e w2 ⟨rfl,rfl⟩
   go_wp2_with fail
   go_ret2
   exact ⟨rfl,b_then hb1⟩
 ·have hl:=(str_ok h2).1
  have hl':s.size<=1000:=by rw [len_size] at hl; omega
  clear h1 h2 hl
  go_enter Tryz.func215,Tryz.ntmps215
  go_wp2_with fail
  refine (HC.out _).mono ?_; rintro e w1 ⟨rfl,hb1⟩
  obtain ⟨m0,m1,m2,y⟩:=box3 w.heap.size 3 0 s hb1 (by simp) (by simp [go_sem]) (by simp [go_sem]) (by simp [go_sem])
  go_wp2_with fail
  refine (quoted_any s _ hl').mono ?_; rintro e w2 ⟨rfl,hb2⟩
  go_wp2_with fail
  go_ret2
  exact ⟨rfl,b_trans (b_then hb1) hb2⟩
 ·clear h1 h2
  go_enter Tryz.func215,Tryz.ntmps215
  go_wp2_with fail
  refine (HC.out _).mono ?_; rintro e w1 ⟨rfl,hb1⟩
  obtain ⟨m0,m1,m2,y⟩:=box3 w.heap.size 4 0 s hb1 (by simp) (by simp [go_sem]) (by simp [go_sem]) (by simp [go_sem])
  go_wp2_with fail
  go_ret2
  exact ⟨rfl,b_then hb1⟩
 ·clear h1 h2
  obtain ⟨t,ht,HT,hi⟩:=itoa_str n (by omega) (by omega)
  have HI:=Lib.hid hi
  clear hi
  go_enter Tryz.func215,Tryz.ntmps215
  go_wp2_with fail
  refine (HC.out _).mono ?_; rintro e w1 ⟨rfl,hb1⟩
  obtain ⟨m0,m1,m2,y⟩:=box3 w.heap.size 5 n s hb1 (by simp) (by simp [go_sem]) (by simp [go_sem]) (by simp [go_sem])
  go_wp2_with fail
  refine (HI.out _ (HP.out.below (b_then hb1))).mono ?_; rintro e w2 ⟨rfl,hb2⟩
  go_wp2_with fail
  go_ret2
  exact ⟨ret_str (by rw [HT.out]; simp [showL]),b_trans (b_then hb1) hb2⟩
end Show
namespace Prn
open Go.RowKit
open ValM LexM ExM ShowM PrM Kit ExL ExN ExV GenL
set_option linter.unusedVariables false
structure Vars (w:World):Prop where
 tab:Tab w
 pow:Show.Pow w
theorem Vars.below {w w':World} (h:Vars w) (hb:Below w.heap.size w w'):Vars w':=⟨h.tab.below hb,h.pow.below hb⟩
def PrAt (x:Ex):Prop:=∀ (d:Nd) (A:Option Addr) (n c:Nat) (w:World),Is w x d A n->Vars w →
 Calls Tryz.prog 160 #[.agg #[.int .i64 d.op,.int .i64 d.k,.int .i64 d.n,.string d.s,.string d.nm,.slice A n c]] w fun e w' => e=.returned (.string ⟨(Ex.txt x).toArray⟩)/\Below w.heap.size w w'
theorem is_d {w:World} {x:Ex} {d:Nd} {A:Option Addr} {n:Nat} (h:Is w x d A n):x.d=d:=by
 cases x; rw [is_mk] at h; exact h.1.symm
theorem rw_rwF (j:Nat):rw_ j=rwF (j:Int):=rfl
theorem str_inj {a b:ByteArray} (h:a.data.toList=b.data.toList):Ending.returned (.string a)=.returned (.string b):=by rw [show a=b from WideShapes.bytes_inj h]
set_option maxHeartbeats 1000000 in
theorem operand_any (x:Ex) (hx:PrAt x) (ho:1<=x.d.op/\x.d.op<=18) (hsz:(Ex.txt x).length<=100000) (p:Int) (d:Nd) (A:Option Addr) (n c:Nat) (w:World) (his:Is w x d A n) (hv:Vars w) :
  Calls Tryz.prog 217 #[.agg #[.int .i64 d.op,.int .i64 d.k,.int .i64 d.n,.string d.s,.string d.nm,.slice A n c],.int .i64 p] w fun e w' => e=.returned (.string ⟨(br p (x.d.op,Ex.txt x)).toArray⟩)/\Below w.heap.size w w':=by
 have hd:=is_d his
 rw [hd] at ho ⊢
 obtain ⟨j,hj⟩:∃ j:Nat,d.op=j:=⟨d.op.toNat,by omega⟩
 have hj1:j < 19:=by omega
 have hcell:=(hv.tab.cells j hj1).2.1
 obtain ⟨q,hq⟩:∃ q,precF d.op=q:=⟨_,rfl⟩
 have hq2:(rw_ j).2.1=q:=by rw [rw_rwF,← hj]; exact hq
 rw [hq2] at hcell
 have hb0:=b_new w (.cells #[.int .i64 d.op,.int .i64 d.k,.int .i64 d.n,.string d.s,.string d.nm,.slice A n c] 57)
 have hc0:(w.alloc (.cells #[.int .i64 d.op,.int .i64 d.k,.int .i64 d.n,.string d.s,.string d.nm,.slice A n c] 57)).cell? ⟨3,j * 3 + 1,none⟩=some (.int .i64 q):=by
  rw [World.cell?_alloc_lt _ _ _ (cell_lt' hcell)]; exact hcell
 have hc:=hx d A n c _ (his.below hb0) (hv.below hb0)
 obtain ⟨t,ht⟩:∃ t:ByteArray,t=⟨(Ex.txt x).toArray⟩:=⟨_,rfl⟩
 have htl:t.data.toList=Ex.txt x:=by rw [ht]
 have hts:t.size<=100000:=by show t.data.toList.length<=_; rw [htl]; exact hsz
 rw [← ht] at hc
 have HC:=Lib.hid hc
 have HT:=Lib.hid htl
 have i0:0<=d.op:=by omega
 have i1:d.op < 19:=by omega
 have i2:d.op.toNat=j:=by omega
 have HQ:=Lib.hid hq
 clear hc ht htl his hv hcell hb0 hq2 hd hx hj hq
 by_cases hlt:q < p
 ·have e:br p (d.op,Ex.txt x)=40 :: (Ex.txt x ++ [41]):=by unfold br; rw [HQ.out,if_pos hlt]
  rw [e]
  clear e
  go_enter Tryz.func217,Tryz.ntmps217
  go_wp2_with fail
  refine HC.out.mono ?_; rintro e w1 ⟨rfl,hb1⟩
  go_wp2_with fail
  go_ret
  exact ⟨str_inj (by simp [HT.out]),b_then hb1⟩
 ·have e:br p (d.op,Ex.txt x)=Ex.txt x:=by unfold br; rw [HQ.out,if_neg hlt]
  rw [e]
  clear e
  go_enter Tryz.func217,Tryz.ntmps217
  go_wp2_with fail
  refine HC.out.mono ?_; rintro e w1 ⟨rfl,hb1⟩
  go_wp2_with fail
  go_ret
  exact ⟨str_inj HT.out,b_then hb1⟩
def strB (x:Ex):ByteArray:=⟨(Ex.txt x).toArray⟩
theorem join_commas:∀ ls:List (List UInt8),Lib.join ls [44,32]=commas ls
 | [] => rfl
 | [a] => by rw [Lib.join_one]; rfl
 | a :: b :: r => by
  have:=join_commas (b :: r)
  rw [Lib.join_cons] at this ⊢
  simp only [Lib.joinTail,List.map_cons,List.flatten_cons,commas] at this ⊢
  rw [← this]; simp
theorem sum_le {l:List Ex} (h:∀ x ∈ l,(Ex.txt x).length<=100000):((l.map Ex.txt).map List.length).sum<=l.length * 100000:=by
 induction l with
 | nil => simp
 | cons x l ih =>
  have h1:=h x (by simp)
  have h2:=ih fun y hy => h y (by simp [hy])
  simp only [List.map_cons,List.sum_cons,List.length_cons] at h2 ⊢
  omega
structure SInv (w:World) (l:List Ex) (k:Nat) (v:Value) (wr:World):Prop where
 le:k<=l.length
 own:wr.ownsRow w.heap.size 9 1 v k ((l.map fun x => Value.string (strB x)).take k)
 below:Below w.heap.size w wr
theorem SInv.step {w wr w1 w3:World} {l:List Ex} {k:Nat} {v v':Value} {o1 o2:Obj} (h:SInv w l k v wr) (hk:k < l.length) (hb:Below (wr.alloc o1).heap.size (wr.alloc o1) w1)
  (ho:w3.ownsRow w.heap.size 9 1 v' (k + 1) ((l.map fun x => Value.string (strB x)).take k ++ [.string (strB l[k])])) (hg:(w1.alloc o2).grownBy w3 v.ownBlock):SInv w l (k + 1) v' w3:=by
 have hs:=h.below.size
 have hb1:Below w.heap.size w w1:=h.below.trans ((b_then hb).mono hs)
 refine ⟨hk,?_,(hb1.alloc hb1.size _).grown hg (by have:=hb1.size; simp; omega) (fun g hg => (h.own.lt g hg).1)⟩
 rw [List.take_succ_eq_append_getElem (by simpa using hk),List.getElem_map]
 exact ho
set_option maxHeartbeats 2000000 in
set_option maxRecDepth 100000 in
theorem listed_any (l:List Ex) (hx:∀ x ∈ l,PrAt x) (hsz:∀ x ∈ l,(Ex.txt x).length<=100000) (h0:0 < l.length) (h3:l.length<=3) (A:Option Addr) (c:Nat) (w:World)
  (hargs:∀ (j:Nat) (h:j < l.length),∃ a d B n c,A=some a/\At w (a.add (j * 6)) d B n c/\Is w l[j] d B n) (hv:Vars w) :
  Calls Tryz.prog 216 #[.slice A l.length c] w fun e w' => e=.returned (.string ⟨(commas (l.map Ex.txt)).toArray⟩)/\Below w.heap.size w w':=by
 obtain ⟨i0,hi,hz0,hz1,hz2⟩:=info_parts GenL.infoStr
 have hI0:SInv w l 0 (.slice none 0 0) w:=⟨Nat.zero_le _,World.ownsRow_nil _ _ _ _,Below.refl _ _⟩
 have HI0:=Lib.hid hI0
 have HA:=Lib.hid hargs
 have HV:=Lib.hid hv
 have HX:=Lib.hid hx
 have HS:=Lib.hid hsz
 clear hI0 hargs hv hx hsz
 go_enter Tryz.func216,Tryz.ntmps216
 go_wp2_with fail
 go_loopw [3,8] (fun v i wr => ∃ k:Nat,i=.int .i64 k/\SInv w l k v wr) (fun _ i _ => l.length - (intOf i).toNat)
 case atStart => exact ⟨0,rfl,HI0.out⟩
 case round =>
  obtain ⟨k,rfl,hI⟩:=hrel
  have hle:=hI.le
  have HI:=Lib.hid hI
  by_cases hlt:k < l.length
  ·obtain ⟨a,d,B,m,cp,rfl,hat,his⟩:=HA.out k hlt
   obtain ⟨q0,q1,q2,q3,q4,q5⟩:=hat.below hI.below
   have hb1:=hI.below.trans ((b_new wr (.cells #[.int .i64 d.op,.int .i64 d.k,.int .i64 d.n,.string d.s,.string d.nm,.slice B m cp] 57)).mono hI.below.size)
   have hc:=HX.out _ (List.getElem_mem hlt) d B m cp _ (his.below hb1) (HV.out.below hb1)
   obtain ⟨t,ht⟩:∃ t:ByteArray,t=strB l[k]:=⟨_,rfl⟩
   rw [show (⟨(Ex.txt l[k]).toArray⟩:ByteArray)=t from ht.symm] at hc
   have HC:=Lib.hid hc
   have HT:=Lib.hid ht
   have hs:=hI.below.size
   clear hc ht hat his hb1 hI
   go_wp2_with fail
   refine HC.out.mono ?_; rintro e w1 ⟨rfl,hb2⟩
   have hown:=(own_below (HI.out.own.alloc (.cells #[.int .i64 d.op,.int .i64 d.k,.int .i64 d.n,.string d.s,.string d.nm,.slice B m cp] 57)) hb2).alloc (.cells #[.string t] 9)
   have hz9:w.heap.size<=w1.heap.size:=by have:=hb2.size; simp at this; omega
   have HB2:=Lib.hid hb2
   clear hb2
   go_wp2_with (at_builtin; refine wpList_append_own _ rfl _ _ 35 rfl w.heap.size 9 i0 (.string ⟨#[]⟩) 1 16 Tryz.underlying35 hi hz0 hz1 hz2 rfl (by decide) _ _ _ rfl hown ⟨w1.heap.size,0,none⟩ 1 1 [.string t] rfl rfl ?c1 ?c2 ?c3 ?c4 ?c5 ?_)
   case c1 =>
    intro j y hj
    match j,hj with
    | 0,hj => simp at hj; subst hj; simp [Addr.add]
    | j + 1,hj => simp at hj
   case c2 => intro y hy; simp at hy; subst hy; rfl
   case c3 => unfold maxLen; omega
   case c4 => omega
   case c5 => simp; omega
   intro v' w3 hown3 hgrow _
   rw [HT.out] at hown3
   have hN:=HI.out.step hlt HB2.out hown3 hgrow
   have HN:=Lib.hid hN
   clear hN hown3 hgrow hown
   go_wp2
   go_roundw
   case rel => exact ⟨k + 1,by go_num,HN.out⟩
   case measure => simp [intOf]; omega
  ·have hkl:k=l.length:=by omega
   subst hkl
   have hown:=hI.own
   rw [List.take_of_length_le (by simp)] at hown
   obtain ⟨g,cap,rfl,_,hgl,hlc,hcm,hcl⟩:=own_form hown h0
   have hlen:(Lib.join ((l.map strB).map (·.data.toList)) (⟨#[44,32]⟩:ByteArray).data.toList).length<=140737488355328:=by
    rw [show (l.map strB).map (·.data.toList)=l.map Ex.txt by rw [List.map_map]; rfl,show (⟨#[44,32]⟩:ByteArray).data.toList=[44,32] from rfl,join_commas]
    have h1:=commas_len (l.map Ex.txt)
    have h2:=sum_le HS.out
    rw [List.length_map] at h1
    omega
   have hcells:∀ (j:Nat) x,(l.map strB)[j]?=some x->wr.cell? ⟨g,0 + j,none⟩=some (.string x):=fun j x hjx => by
    have hjl:j < l.length:=by
     have:=(List.getElem?_eq_some_iff.1 hjx).1
     simpa using this
    rw [Nat.zero_add,hcl j (by omega)]
    rw [List.getElem?_map,List.getElem?_eq_getElem hjl] at hjx ⊢
    simp at hjx ⊢; exact hjx
   have hj:=Tryz.strings_Join g 0 cap (l.map strB) ⟨#[44,32]⟩ wr hcells hgl (by simp; omega) (by simpa using hlc) hlen
   rw [List.length_map,show (l.map strB).map (·.data.toList)=l.map Ex.txt by rw [List.map_map]; rfl,show (⟨#[44,32]⟩:ByteArray).data.toList=[44,32] from rfl,join_commas] at hj
   have HJ:=Lib.hid hj
   clear hj hown hcl hI hcells hlen
   go_wp2_with fail
   refine HJ.out.mono ?_; rintro e w1 ⟨rfl,hb2⟩
   go_wp2_with fail
   go_ret
   exact ⟨rfl,HI.out.below.trans (hb2.mono HI.out.below.size)⟩
theorem left_any (sg:ByteArray) (q ar:Int) (w:World) (h0:0<=q) (h6:q<=6) :
  Calls Tryz.prog 218 #[.agg #[.string sg,.int .i64 q,.int .i64 ar]] w fun e w' => e=.returned (.int .i64 (if q=2 then q + 1 else q))/\Below w.heap.size w w':=by
 by_cases h:q=2
 ·subst h
  go_enter Tryz.func218,Tryz.ntmps218
  go_wp2
  go_ret
  exact ⟨rfl,b_new _ _⟩
 ·rw [if_neg h]
  have t1:(q == 2)=false:=beq_eq_false_iff_ne.2 h
  clear h
  go_enter Tryz.func218,Tryz.ntmps218
  go_wp2
  go_ret
  exact ⟨rfl,b_new _ _⟩
theorem prec_bd (op:Int):0<=precF op/\precF op<=6:=by
 unfold precF rwF
 rcases Nat.lt_or_ge op.toNat 19 with h | h
 ·obtain h | h | h | h | h | h | h | h | h | h | h | h | h | h | h | h | h | h | h:op.toNat=0 ∨ op.toNat=1 ∨ op.toNat=2 ∨ op.toNat=3 ∨ op.toNat=4 ∨ op.toNat=5 ∨ op.toNat=6 ∨ op.toNat=7 ∨ op.toNat=8 ∨ op.toNat=9 ∨ op.toNat=10 ∨ op.toNat=11 ∨ op.toNat=12 ∨ op.toNat=13 ∨ op.toNat=14 ∨ op.toNat=15 ∨ op.toNat=16 ∨ op.toNat=17 ∨ op.toNat=18:=by omega
  all_goals rw [h]; decide
 ·rw [List.getD_eq_getElem?_getD,List.getElem?_eq_none (by show NotTab.rows.length<=_; exact h)]; decide
theorem nodeE_parts {d:Nd} {m:Nat} (h:nodeE d m=0):1<=d.op/\d.op<=18/\m=arity d.op/\vOk d=true/\nmOk d=true:=by
 unfold nodeE at h
 by_cases hr:d.op < 1 ∨ 18 < d.op
 ·rw [if_pos hr] at h; exact absurd h (by decide)
 ·rw [if_neg hr] at h
  by_cases hg:m=arity d.op/\vOk d=true/\nmOk d=true
  ·exact ⟨by omega,by omega,hg⟩
  ·rw [if_neg hg] at h; exact absurd h (by decide)
theorem okN_op {x:Ex} (h:x.okN):1<=x.d.op/\x.d.op<=18:=by
 obtain ⟨d,l⟩:=x
 have:=nodeE_parts ((okN_mk d l).1 h).1
 exact ⟨this.1,this.2.1⟩
end Prn
namespace Prn
open Go.RowKit
open ValM LexM ExM ShowM PrM Kit ExL ExN ExV GenL
set_option linter.unusedVariables false
theorem adds (a b:ByteArray) (ha:a.size<=2000000) (hb:b.size<=2000000):∀ W:World,(Op.stringOp .add a b).run Tryz.prog W=.ok (.string (a ++ b)) W:=fun W => run_string_add_sum W a b (by omega)
theorem b_step {w W w':World} (h:Below w.heap.size w W) (hb:Below W.heap.size W w'):Below w.heap.size w w':=h.trans (hb.mono h.size)
set_option maxHeartbeats 4000000 in
set_option maxRecDepth 100000 in
theorem printed_any:∀ x:Ex,x.okN->x.nodes<=60->PrAt x:=by
 refine Ex.ind fun d l ih => ?_
 intro hok hn d' A n c w his hv
 rw [is_mk] at his
 obtain ⟨rfl,rfl,⟨hm,_⟩,his⟩:=his
 obtain ⟨hE,hl⟩:=(okN_mk d' l).1 hok
 obtain ⟨p1,p2,p3,p4,p5⟩:=nodeE_parts hE
 rw [nodes_mk] at hn
 have hxn:∀ x ∈ l,x.nodes<=60:=fun x hx => by have:=nodes_mem hx; omega
 have hpr:∀ x ∈ l,PrAt x:=fun x hx => ih x hx (hl x hx) (hxn x hx)
 have hsz:∀ x ∈ l,(Ex.txt x).length<=6000:=fun x hx => by have h1:=txt_len x (hl x hx); have h2:=hxn x hx; omega
 obtain ⟨j,hj⟩:∃ j:Nat,d'.op=j:=⟨d'.op.toNat,by omega⟩
 have hj1:j < 19:=by omega
 obtain ⟨hc0,hc1,hc2⟩:=hv.tab.cells j hj1
 obtain ⟨sg,hsg⟩:∃ t:ByteArray,t=⟨(rw_ j).1.toArray⟩:=⟨_,rfl⟩
 have hsl:sg.data.toList=signF d'.op:=by rw [hsg,hj]; rfl
 have hss:sg.size<=3:=by show sg.data.toList.length<=3; rw [hsl]; exact rwF_len _
 obtain ⟨q,hq⟩:∃ q,precF d'.op=q:=⟨_,rfl⟩
 have hq2:(rw_ j).2.1=q:=by rw [rw_rwF,← hj]; exact hq
 obtain ⟨ar,har⟩:∃ a,(rw_ j).2.2=a:=⟨_,rfl⟩
 obtain ⟨qb0,qb1⟩:=prec_bd d'.op
 rw [hq] at qb0 qb1
 rw [← hsg] at hc0
 rw [hq2] at hc1
 rw [har] at hc2
 have a0:∀ o,(w.alloc o).cell? ⟨3,j * 3,none⟩=some (.string sg):=fun o => by rw [World.cell?_alloc_lt _ _ _ (cell_lt' hc0)]; exact hc0
 have a1:∀ o,(w.alloc o).cell? ⟨3,j * 3 + 1,none⟩=some (.int .i64 q):=fun o => by rw [World.cell?_alloc_lt _ _ _ (cell_lt' hc1)]; exact hc1
 have a2:∀ o,(w.alloc o).cell? ⟨3,j * 3 + 2,none⟩=some (.int .i64 ar):=fun o => by rw [World.cell?_alloc_lt _ _ _ (cell_lt' hc2)]; exact hc2
 have i0:0<=d'.op:=by omega
 have i1:d'.op < 19:=by omega
 have i2:d'.op.toNat=j:=by omega
 have htx:Ex.txt (.mk d' l)=txtF d' (txtL l):=txt_mk d' l
 rw [htx]
 obtain ⟨r,hr⟩:∃ r,txtF d' (txtL l)=r:=⟨_,rfl⟩
 rw [hr]
 have HR:=Lib.hid hr
 clear hr
 have HP:=Lib.hid (And.intro p3 (And.intro p4 p5))
 have HI:=Lib.hid his
 have HV:=Lib.hid hv
 have HPr:=Lib.hid hpr
 have HSz:=Lib.hid hsz
 have HSg:=Lib.hid hsl
 have HQ:=Lib.hid hq
 have HL:=Lib.hid hl
 have HOK:=Lib.hid hok
 clear p3 p4 p5 his hv hpr hsz hsl hq hl hE hxn ih hsg hq2 har hc0 hc1 hc2 hj htx hok
 unfold maxLen at hm
 go_enter Tryz.func160,Tryz.ntmps160
 go_upto_region 1 with fail
 go_cut [1,3] (fun s1 s3 wx => ∃ B C:Nat,s1=.pointer (some ⟨B,0,none⟩)/\s3=.pointer (some ⟨C,0,none⟩)/\B < wx.heap.size/\C < wx.heap.size/\Below w.heap.size w wx/\wx.cell? ⟨B,0,none⟩=some (.int .i64 d'.op)/\wx.cell? ⟨B,1,none⟩=some (.int .i64 d'.k)/\wx.cell? ⟨B,2,none⟩=some (.int .i64 d'.n)/\wx.cell? ⟨B,3,none⟩=some (.string d'.s)/\wx.cell? ⟨B,4,none⟩=some (.string d'.nm)/\wx.cell? ⟨B,5,none⟩=some (.slice A l.length c)/\wx.cell? ⟨C,0,none⟩=some (.string sg)/\wx.cell? ⟨C,1,none⟩=some (.int .i64 q)/\wx.cell? ⟨C,2,none⟩=some (.int .i64 ar))
 case first =>
  go_wp2_with fail
  go_meet
  exact ⟨_,_,rfl,rfl,by first | (simp; done) | (simp; omega),by first | (simp; done) | (simp; omega),b_more (b_new _ _) _,by simp [go_sem],by simp [go_sem],by simp [go_sem],by simp [go_sem],by simp [go_sem],by simp [go_sem],by simp [go_sem],by simp [go_sem],by simp [go_sem]⟩
 case rest =>
 obtain ⟨B,C,rfl,rfl,hB,hC,hbw,m0,m1,m2,m3,m4,m5,n0,n1,n2⟩:=hcut
 by_cases o1:d'.op=1
 ·have t1:(d'.op == 1)=true:=beq_iff_eq.2 o1
  have hk:knownB d'.k d'.n d'.s.data.toList=true:=by
   have:=HP.out.2.1
   unfold vOk at this
   rw [if_pos o1] at this
   simp only [Bool.and_eq_true] at this
   exact this.1
  have hz:valE d'.k d'.n d'.s.data.toList=0:=by
   unfold knownB at hk
   simp only [Bool.and_eq_true,decide_eq_true_eq] at hk
   exact hk.2
  have hc:=Show.show_good d'.k d'.n d'.s wc hz (HV.out.below hbw).pow
  have e:r=showL d'.k d'.n d'.s.data.toList:=by rw [← HR.out]; unfold txtF; rw [if_pos o1]
  have HE:=Lib.hid e
  have HC:=Lib.hid hc
  clear hc hk hz e o1
  go_wp2_with fail
  refine HC.out.mono ?_; rintro e w1 ⟨rfl,hb1⟩
  go_wp2_with fail
  go_ret
  exact ⟨by rw [HE.out]; rfl,hbw.trans (hb1.mono hbw.size)⟩
 have t1:(d'.op == 1)=false:=beq_eq_false_iff_ne.2 o1
 by_cases o2:d'.op=2
 ·have t2:(d'.op == 2)=true:=beq_iff_eq.2 o2
  have e:r=d'.nm.data.toList:=by rw [← HR.out]; unfold txtF; rw [if_neg o1,if_pos o2]
  have HE:=Lib.hid e
  clear e o1 o2
  go_wp2_with fail
  go_ret
  exact ⟨str_inj (by rw [HE.out]),hbw⟩
 have t2:(d'.op == 2)=false:=beq_eq_false_iff_ne.2 o2
 have hw2:∀ W,Below wc.heap.size wc W->(∀ (j:Nat) (h:j < l.length),∃ a d B n c,A=some a/\At W (a.add (j * 6)) d B n c/\Is W l[j] d B n)/\Vars W:=fun W hb =>
  have hb:=hbw.trans (hb.mono hbw.size)
  ⟨fun j hj => by obtain ⟨a,d,B,n,c,e,hat,hi⟩:=HI.out j hj; exact ⟨a,d,B,n,c,e,hat.below hb,hi.below hb⟩,HV.out.below hb⟩
 by_cases o6:q=6
 ·have t3:(q == 6)=true:=beq_iff_eq.2 o6
  have hpos:0 < l.length/\l.length<=3:=by
   have h1:=HP.out.1
   have h2:precF d'.op=6:=by rw [HQ.out,o6]
   rw [h1]
   have:∀ o:Int,1<=o->o<=18->o ≠ 1->o ≠ 2->precF o=6->0 < arity o/\arity o<=3:=fun o a b c d e => by
    have hh:o=17 ∨ o=18:=by
     have:∀ k:Nat,k < 19->precF (k:Int)=6->(k=1 ∨ k=2 ∨ k=17 ∨ k=18):=by decide
     obtain ⟨k,rfl⟩:∃ k:Nat,o=k:=⟨o.toNat,by omega⟩
     rcases this k (by omega) e with g | g | g | g <;> omega
    rcases hh with rfl | rfl <;> decide
   exact this _ p1 p2 o1 o2 h2
  have hc:=fun W (hb:Below wc.heap.size wc W) => listed_any l HPr.out (fun x hx => by have:=HSz.out x hx; omega) hpos.1 hpos.2 A c W (hw2 W hb).1 (hw2 W hb).2
  obtain ⟨t,ht⟩:∃ t:ByteArray,t=⟨(commas (l.map Ex.txt)).toArray⟩:=⟨_,rfl⟩
  have htl:t.data.toList=commas (l.map Ex.txt):=by rw [ht]
  have hts:t.size<=400000:=by
   show t.data.toList.length<=_; rw [htl]
   have h1:=commas_len (l.map Ex.txt)
   have h2:=sum_le (l:=l) (fun x hx => by have:=HSz.out x hx; omega)
   rw [List.length_map] at h1; omega
  have e:r=signF d'.op ++ (40 :: (commas (l.map Ex.txt) ++ [41])):=by
   rw [← HR.out]; unfold txtF; rw [if_neg o1,if_neg o2,if_pos (by rw [HQ.out,o6]),txtL_map,List.map_map]; rfl
  have HE:=Lib.hid e
  rw [← ht] at hc
  have s1:=adds sg ⟨#[40]⟩ (by omega) (by decide)
  have s2:=adds (sg ++ ⟨#[40]⟩) t (by rw [ByteArray.size_append]; show sg.size + 1<=_; omega) (by omega)
  have s3:=adds ((sg ++ ⟨#[40]⟩) ++ t) ⟨#[41]⟩ (by rw [ByteArray.size_append,ByteArray.size_append]; show sg.size + 1 + t.size<=_; omega) (by decide)
  have HC:=Lib.hid hc
  have HT:=Lib.hid htl
  clear hc ht htl e o1 o2 hw2 hpos o6 hts hss
  go_wp2_with fail
  go_region_held3 (fun w' => w'.cell? ⟨B,5,none⟩=some (.slice A l.length c)/\w'.cell? ⟨C,0,none⟩=some (.string sg)) (first | exact ⟨m5,n0⟩ | exact ⟨q5,q6⟩)
   (first | (go_at_call 216; (with_reducible refine (HC.out _ ?_).mono ?_); exact b_drew (Below.refl _ _); rintro e w5 ⟨rfl,hb5⟩; have q5:=((bcell hb5).1 B 5 hB).trans m5; have q6:=((bcell hb5).1 C 0 hC).trans n0))
  go_wp2_with fail
  go_ret
  exact ⟨str_inj (by rw [HE.out,← HT.out,← HSg.out]; simp [ByteArray.data_append]),hbw.trans ((b_undrew hb5).mono hbw.size)⟩
 have t3:(q == 6)=false:=beq_eq_false_iff_ne.2 o6
 have hal:0 < l.length/\l.length<=2/\(q ≠ 5->1 < l.length)/\(d'.op=4->q=5):=by
  have h1:=HP.out.1
  have h2:=HQ.out
  rw [h1]
  have:∀ k:Nat,k < 19->precF (k:Int)=6 ∨ (0 < arity (k:Int)/\arity (k:Int)<=2/\(precF (k:Int) ≠ 5->1 < arity (k:Int))/\((k:Int)=4->precF (k:Int)=5)) ∨ k=0:=by decide
  obtain ⟨k,hk⟩:∃ k:Nat,d'.op=k:=⟨d'.op.toNat,by omega⟩
  rw [hk] at h2 p1 ⊢
  rcases this k (by omega) with h | h | h
  ·omega
  ·rw [h2] at h; exact h
  ·omega
 obtain ⟨l0,l2,l1,l4⟩:=hal
 obtain ⟨a,e0,B0,k0,c0,hA,hat,his0⟩:=HI.out 0 l0
 subst hA
 obtain ⟨f0,f1,f2,f3,f4,f5⟩:=hat.below hbw
 rw [Nat.zero_mul,show a.add 0=a from rfl] at f0 f1 f2 f3 f4 f5
 have hab:a.block < wc.heap.size:=by have:=cell_lt' f5; simpa [Addr.add] using this
 have hsx0:=HSz.out _ (List.getElem_mem l0)
 have hok0:=okN_op (HL.out _ (List.getElem_mem l0))
 have hcO:=fun (p:Int) W (hb:Below wc.heap.size wc W) => operand_any l[0] (HPr.out _ (List.getElem_mem l0)) hok0 (by omega) p e0 B0 k0 c0 W (his0.below (hbw.trans (hb.mono hbw.size))) (hw2 W hb).2
 have hbr:∀ (p:Int) (x:Int × List UInt8),(br p x).length<=x.2.length + 2:=fun p x => by unfold br; split <;> simp
 by_cases o5:q=5
 ·have t5:(q == 5)=true:=beq_iff_eq.2 o5
  obtain ⟨t,ht⟩:∃ t:ByteArray,t=⟨(br 5 (l[0].d.op,Ex.txt l[0])).toArray⟩:=⟨_,rfl⟩
  have htl:t.data.toList=br 5 (arg (txtL l) 0):=by rw [ht,txtL_at l 0 l0]
  have hts:t.size<=10000:=by
   show t.data.toList.length<=_
   have:=hbr 5 (arg (txtL l) 0); rw [htl]; rw [txtL_at l 0 l0] at this ⊢; dsimp only at this; omega
  have hc:=hcO 5
  rw [← ht] at hc
  have HC:=Lib.hid hc
  have HT:=Lib.hid htl
  have hnn:l.length ≠ 0:=by omega
  have i4:(0:Int) < (l.length:Int):=by omega
  by_cases o4:d'.op=4
  ·have t4:(d'.op == 4)=true:=beq_iff_eq.2 o4
   have e:r=signF d'.op ++ (32 :: br 5 (arg (txtL l) 0)):=by
    rw [← HR.out]; unfold txtF; rw [if_neg o1,if_neg o2,if_neg (by rw [HQ.out]; exact o6),if_pos o4]
   have HE:=Lib.hid e
   have s1:=adds sg ⟨#[32]⟩ (by omega) (by decide)
   have s2:=adds (sg ++ ⟨#[32]⟩) t (by rw [ByteArray.size_append]; show sg.size + 1<=_; omega) (by omega)
   clear hc ht htl e hcO hbr o1 o2 o4 o5 o6 l1 l2 l4 hw2 hts hss hat his0 hsx0 hok0
   go_wp2_with fail
   go_region_held3 (fun w' => w'.cell? ⟨B,5,none⟩=some (.slice (some a) l.length c)/\w'.cell? ⟨C,0,none⟩=some (.string sg)/\w'.cell? a=some (.int .i64 e0.op)/\w'.cell? ⟨a.block,a.off + 1,none⟩=some (.int .i64 e0.k)/\w'.cell? ⟨a.block,a.off + 2,none⟩=some (.int .i64 e0.n)/\w'.cell? ⟨a.block,a.off + 3,none⟩=some (.string e0.s)/\w'.cell? ⟨a.block,a.off + 4,none⟩=some (.string e0.nm)/\w'.cell? ⟨a.block,a.off + 5,none⟩=some (.slice B0 k0 c0)) (exact ⟨m5,n0,f0,f1,f2,f3,f4,f5⟩)
    (first | (go_at_call 217; (with_reducible refine (HC.out _ ?_).mono ?_); exact b_drew (Below.refl _ _); rintro e w5 ⟨rfl,hb5⟩; have m5:=((bcell hb5).1 B 5 hB).trans m5; have n0:=((bcell hb5).1 C 0 hC).trans n0; have f0:=(hb5.cell (p:=a) hab).trans f0; have f1:=((bcell hb5).1 _ _ hab).trans f1; have f2:=((bcell hb5).1 _ _ hab).trans f2; have f3:=((bcell hb5).1 _ _ hab).trans f3; have f4:=((bcell hb5).1 _ _ hab).trans f4; have f5:=((bcell hb5).1 _ _ hab).trans f5))
   go_wp2_with fail
   go_ret
   exact ⟨str_inj (by rw [HE.out,← HT.out,← HSg.out]; simp [ByteArray.data_append]),hbw.trans ((b_undrew hb5).mono hbw.size)⟩
  ·have t4:(d'.op == 4)=false:=beq_eq_false_iff_ne.2 o4
   have e:r=signF d'.op ++ br 5 (arg (txtL l) 0):=by
    rw [← HR.out]; unfold txtF; rw [if_neg o1,if_neg o2,if_neg (by rw [HQ.out]; exact o6),if_neg o4,if_pos (by rw [HQ.out]; exact o5)]
   have HE:=Lib.hid e
   have s1:=adds sg t (by omega) (by omega)
   clear hc ht htl e hcO hbr o1 o2 o4 o5 o6 l1 l2 l4 hw2 hts hss hat his0 hsx0 hok0
   go_wp2_with fail
   go_region_held3 (fun w' => w'.cell? ⟨B,5,none⟩=some (.slice (some a) l.length c)/\w'.cell? ⟨C,0,none⟩=some (.string sg)/\w'.cell? a=some (.int .i64 e0.op)/\w'.cell? ⟨a.block,a.off + 1,none⟩=some (.int .i64 e0.k)/\w'.cell? ⟨a.block,a.off + 2,none⟩=some (.int .i64 e0.n)/\w'.cell? ⟨a.block,a.off + 3,none⟩=some (.string e0.s)/\w'.cell? ⟨a.block,a.off + 4,none⟩=some (.string e0.nm)/\w'.cell? ⟨a.block,a.off + 5,none⟩=some (.slice B0 k0 c0)) (exact ⟨m5,n0,f0,f1,f2,f3,f4,f5⟩)
    (first | (go_at_call 217; (with_reducible refine (HC.out _ ?_).mono ?_); exact b_drew (Below.refl _ _); rintro e w5 ⟨rfl,hb5⟩; have m5:=((bcell hb5).1 B 5 hB).trans m5; have n0:=((bcell hb5).1 C 0 hC).trans n0; have f0:=(hb5.cell (p:=a) hab).trans f0; have f1:=((bcell hb5).1 _ _ hab).trans f1; have f2:=((bcell hb5).1 _ _ hab).trans f2; have f3:=((bcell hb5).1 _ _ hab).trans f3; have f4:=((bcell hb5).1 _ _ hab).trans f4; have f5:=((bcell hb5).1 _ _ hab).trans f5))
   go_wp2_with fail
   go_ret
   exact ⟨str_inj (by rw [HE.out,← HT.out,← HSg.out]; simp [ByteArray.data_append]),hbw.trans ((b_undrew hb5).mono hbw.size)⟩
 have t5:(q == 5)=false:=beq_eq_false_iff_ne.2 o5
 have o4:d'.op ≠ 4:=fun h => o5 (l4 h)
 have t4:(d'.op == 4)=false:=beq_eq_false_iff_ne.2 o4
 have l1':=l1 o5
 obtain ⟨a',e1,B1,k1,c1,hA1,hat1,his1⟩:=HI.out 1 l1'
 obtain rfl:a=a':=by injection hA1
 obtain ⟨g0,g1,g2,g3,g4,g5⟩:=hat1.below hbw
 rw [Nat.one_mul] at g0 g1 g2 g3 g4 g5
 have hsx1:=HSz.out _ (List.getElem_mem l1')
 have hok1:=okN_op (HL.out _ (List.getElem_mem l1'))
 have hcP:=fun (p:Int) W (hb:Below wc.heap.size wc W) => operand_any l[1] (HPr.out _ (List.getElem_mem l1')) hok1 (by omega) p e1 B1 k1 c1 W (his1.below (hbw.trans (hb.mono hbw.size))) (hw2 W hb).2
 obtain ⟨pl,hpl⟩:∃ p,(if q=2 then q + 1 else q)=p:=⟨_,rfl⟩
 have hcL:=fun W => left_any sg q ar W qb0 qb1
 rw [hpl] at hcL
 obtain ⟨t,ht⟩:∃ t:ByteArray,t=⟨(br pl (l[0].d.op,Ex.txt l[0])).toArray⟩:=⟨_,rfl⟩
 have htl:t.data.toList=br (leftF d'.op) (arg (txtL l) 0):=by rw [ht,txtL_at l 0 l0]; unfold leftF; rw [HQ.out,hpl]
 have hts:t.size<=10000:=by
  show t.data.toList.length<=_
  rw [ht]; show (br pl (l[0].d.op,Ex.txt l[0])).length<=_
  have:=hbr pl (l[0].d.op,Ex.txt l[0]); dsimp only at this; omega
 obtain ⟨u,hu⟩:∃ t:ByteArray,t=⟨(br (q + 1) (l[1].d.op,Ex.txt l[1])).toArray⟩:=⟨_,rfl⟩
 have hul:u.data.toList=br (precF d'.op + 1) (arg (txtL l) 1):=by rw [hu,txtL_at l 1 l1',HQ.out]
 have hus:u.size<=10000:=by
  show u.data.toList.length<=_
  rw [hu]; show (br (q + 1) (l[1].d.op,Ex.txt l[1])).length<=_
  have:=hbr (q + 1) (l[1].d.op,Ex.txt l[1]); dsimp only at this; omega
 have hc:=hcO pl
 rw [← ht] at hc
 have hd:=hcP (q + 1)
 rw [← hu] at hd
 have e:r=br (leftF d'.op) (arg (txtL l) 0) ++ (32 :: (signF d'.op ++ (32 :: br (precF d'.op + 1) (arg (txtL l) 1)))):=by
  rw [← HR.out]; unfold txtF; rw [if_neg o1,if_neg o2,if_neg (by rw [HQ.out]; exact o6),if_neg o4,if_neg (by rw [HQ.out]; exact o5)]
 have HE:=Lib.hid e
 have HC:=Lib.hid hc
 have HD:=Lib.hid hd
 have HLp:=Lib.hid hcL
 have HT:=Lib.hid htl
 have HU:=Lib.hid hul
 have i4:(0:Int) < (l.length:Int):=by omega
 have i5:(1:Int) < (l.length:Int):=by omega
 have s1:=adds t ⟨#[32]⟩ (by omega) (by decide)
 have s2:=adds (t ++ ⟨#[32]⟩) sg (by rw [ByteArray.size_append]; show t.size + 1<=_; omega) (by omega)
 have s3:=adds (t ++ ⟨#[32]⟩ ++ sg) ⟨#[32]⟩ (by rw [ByteArray.size_append,ByteArray.size_append]; show t.size + 1 + sg.size<=_; omega) (by decide)
 have s4:=adds (t ++ ⟨#[32]⟩ ++ sg ++ ⟨#[32]⟩) u (by rw [ByteArray.size_append,ByteArray.size_append,ByteArray.size_append]; show t.size + 1 + sg.size + 1<=_; omega) (by omega)
 have hwq:IntKind.i64.wrap (q + 1)=q + 1:=IntWalk.i64_in _ (by omega)
 have HCells:=Lib.hid (show ∀ w',Below wc.heap.size wc w'->w'.cell? ⟨B,5,none⟩=some (.slice (some a) l.length c)/\w'.cell? ⟨C,0,none⟩=some (.string sg)/\w'.cell? ⟨C,1,none⟩=some (.int .i64 q)/\w'.cell? ⟨C,2,none⟩=some (.int .i64 ar)/\w'.cell? a=some (.int .i64 e0.op)/\w'.cell? ⟨a.block,a.off + 1,none⟩=some (.int .i64 e0.k)/\w'.cell? ⟨a.block,a.off + 2,none⟩=some (.int .i64 e0.n)/\w'.cell? ⟨a.block,a.off + 3,none⟩=some (.string e0.s)/\w'.cell? ⟨a.block,a.off + 4,none⟩=some (.string e0.nm)/\w'.cell? ⟨a.block,a.off + 5,none⟩=some (.slice B0 k0 c0)/\w'.cell? ⟨a.block,a.off + 6,none⟩=some (.int .i64 e1.op)/\w'.cell? ⟨a.block,a.off + 6 + 1,none⟩=some (.int .i64 e1.k)/\w'.cell? ⟨a.block,a.off + 6 + 2,none⟩=some (.int .i64 e1.n)/\w'.cell? ⟨a.block,a.off + 6 + 3,none⟩=some (.string e1.s)/\w'.cell? ⟨a.block,a.off + 6 + 4,none⟩=some (.string e1.nm)/\w'.cell? ⟨a.block,a.off + 6 + 5,none⟩=some (.slice B1 k1 c1) from fun w' h => ⟨((bcell h).1 B 5 hB).trans m5,((bcell h).1 C 0 hC).trans n0,((bcell h).1 C 1 hC).trans n1,((bcell h).1 C 2 hC).trans n2,(h.cell (p:=a) hab).trans f0,((bcell h).1 _ _ hab).trans f1,((bcell h).1 _ _ hab).trans f2,((bcell h).1 _ _ hab).trans f3,((bcell h).1 _ _ hab).trans f4,((bcell h).1 _ _ hab).trans f5,(h.cell (p:=a.add 6) hab).trans g0,((bcell h).1 _ _ hab).trans g1,((bcell h).1 _ _ hab).trans g2,((bcell h).1 _ _ hab).trans g3,((bcell h).1 _ _ hab).trans g4,((bcell h).1 _ _ hab).trans g5⟩)
 have hbl:Below wc.heap.size wc wc:=Below.refl _ _
 clear hc hd ht hu htl hul hpl hcL e hcO hcP hbr o1 o2 o4 o5 o6 l1 l1' l2 l4 hw2 hts hus hss hat his0 hat1 his1 hA1 hsx0 hok0 hsx1 hok1 qb0 qb1
 go_wp2_with fail
 go_region_held3 (fun w' => w'.cell? ⟨B,5,none⟩=some (.slice (some a) l.length c)/\w'.cell? ⟨C,0,none⟩=some (.string sg)/\w'.cell? ⟨C,1,none⟩=some (.int .i64 q)/\w'.cell? ⟨C,2,none⟩=some (.int .i64 ar)/\w'.cell? a=some (.int .i64 e0.op)/\w'.cell? ⟨a.block,a.off + 1,none⟩=some (.int .i64 e0.k)/\w'.cell? ⟨a.block,a.off + 2,none⟩=some (.int .i64 e0.n)/\w'.cell? ⟨a.block,a.off + 3,none⟩=some (.string e0.s)/\w'.cell? ⟨a.block,a.off + 4,none⟩=some (.string e0.nm)/\w'.cell? ⟨a.block,a.off + 5,none⟩=some (.slice B0 k0 c0)/\w'.cell? ⟨a.block,a.off + 6,none⟩=some (.int .i64 e1.op)/\w'.cell? ⟨a.block,a.off + 6 + 1,none⟩=some (.int .i64 e1.k)/\w'.cell? ⟨a.block,a.off + 6 + 2,none⟩=some (.int .i64 e1.n)/\w'.cell? ⟨a.block,a.off + 6 + 3,none⟩=some (.string e1.s)/\w'.cell? ⟨a.block,a.off + 6 + 4,none⟩=some (.string e1.nm)/\w'.cell? ⟨a.block,a.off + 6 + 5,none⟩=some (.slice B1 k1 c1)) (first | exact HCells.out _ hbl | exact HCells.out _ (b_drew hbl))
  (first | (go_at_call 218; (with_reducible refine (HLp.out _).mono ?_); rintro e w3 ⟨rfl,hb3⟩; have hbl:Below wc.heap.size wc w3:=(by (first | (exact b_step hbl hb3) | (exact b_step (b_drew hbl) hb3)))) | (go_at_call 217; (with_reducible refine (HC.out _ ?_).mono ?_); (first | exact hbl | exact b_drew hbl); rintro e w4 ⟨rfl,hb4⟩; have hbl:Below wc.heap.size wc w4:=(by (first | (exact b_step hbl hb4) | (exact b_step (b_drew hbl) hb4)))) | (go_at_call 217; (with_reducible refine (HD.out _ ?_).mono ?_); (first | exact hbl | exact b_drew hbl); rintro e w5 ⟨rfl,hb5⟩; have hbl:Below wc.heap.size wc w5:=(by (first | (exact b_step hbl hb5) | (exact b_step (b_drew hbl) hb5)))))
 go_wp2_with fail
 go_ret
 exact ⟨str_inj (by rw [HE.out,← HT.out,← HU.out,← HSg.out]; simp [ByteArray.data_append]),hbw.trans (hbl.mono hbw.size)⟩
end Prn
namespace ShowRef
open Go.RowKit
open NumM ValM ShowM Kit Show
set_option linter.unusedVariables false
structure TInv (s:ByteArray) (k:Nat) (t:ByteArray):Prop where
 le:k<=s.size
 is:t.data.toList=34 :: escL (s.data.toList.take k)
theorem TInv.size {s t:ByteArray} {k:Nat} (h:TInv s k t) (hs:s.size<=1000):t.size<=2001:=by
 have:=len_take s k hs
 rw [Lib.byteCells_length,← h.is,len_size] at this
 exact this
end ShowRef
namespace PrT
open Go.RowKit
open ValM LexM ExM ShowM PrM Kit ExL ExN ExV GenL Prn
set_option linter.unusedVariables false
set_option maxHeartbeats 2000000 in
theorem print_any (x:Ex) (d:Nd) (A:Option Addr) (n c:Nat) (w:World) (his:Is w x d A n) (hv:Vars w) :
  Calls Tryz.prog 97 #[.agg #[.int .i64 d.op,.int .i64 d.k,.int .i64 d.n,.string d.s,.string d.nm,.slice A n c]] w fun e w' => e=.returned (.tuple #[.string ⟨(if x.checkE=0 then Ex.txt x else []).toArray⟩,.int .i64 x.checkE])/\Below w.heap.size w w':=by
 obtain ⟨R,hR⟩:∃ R,x.checkE=R:=⟨_,rfl⟩
 rw [hR]
 have hc:=fun W (hb:Below w.heap.size w W) => ExC.check_any x d A n c W (his.below hb) (hv.below hb).tab
 rw [hR] at hc
 have HC:=Lib.hid hc
 clear hc
 by_cases h0:R=0
 ·subst h0
  obtain ⟨q1,q2,q3⟩:=checkE_zero hR
  have hp:=fun W (hb:Below w.heap.size w W) => printed_any x q3 q1 d A n c W (his.below hb) (hv.below hb)
  obtain ⟨t,ht⟩:∃ t:ByteArray,t=⟨(Ex.txt x).toArray⟩:=⟨_,rfl⟩
  rw [← ht] at hp
  rw [if_pos rfl,← ht]
  have HP:=Lib.hid hp
  clear hp ht hR his hv q1 q2 q3
  go_enter Tryz.func97,Tryz.ntmps97
  go_wp2_with fail
  refine (HC.out _ (b_new _ _)).mono ?_; rintro e w1 ⟨rfl,hb1⟩
  obtain ⟨c1,d1⟩:=bcell hb1
  go_wp2_with fail
  refine (HP.out _ (b_then hb1)).mono ?_; rintro e w2 ⟨rfl,hb2⟩
  go_wp2_with fail
  go_ret2
  exact ⟨rfl,(b_then hb1).trans (hb2.mono (b_then hb1).size)⟩
 ·rw [if_neg h0]
  have t1:(R == 0)=false:=beq_eq_false_iff_ne.2 h0
  clear hR h0 his hv
  go_enter Tryz.func97,Tryz.ntmps97
  go_wp2_with fail
  refine (HC.out _ (b_new _ _)).mono ?_; rintro e w1 ⟨rfl,hb1⟩
  go_wp2_with fail
  go_ret2
  exact ⟨rfl,b_then hb1⟩
end PrT
namespace PsM
open LexM ExM
def rwP (op:Nat):NotTab.Rw:=NotTab.rows.getD op ([],0,0)
def opAt (q:Nat) (s:List UInt8):Option Nat:=(List.range 19).find? fun op => decide (3<=op) && decide ((rwP op).2.1=(q:Int)) && decide ((rwP op).1=s)
def opN (op:Nat) (l:List Ex):Ex:=.mk ⟨(op:Int),0,0,⟨#[]⟩,⟨#[]⟩⟩ l
def trueB:List UInt8:=[116,114,117,101]
def falseB:List UInt8:=[102,97,108,115,101]
def leafN (t:Tk):Option Ex :=
 if t.kind=1 ∨ t.kind=3 then some (.mk ⟨1,t.vk,t.n,⟨t.t.toArray⟩,⟨#[]⟩⟩ [])
 else if t.s=trueB then some (.mk ⟨1,2,1,⟨#[]⟩,⟨#[]⟩⟩ [])
 else if t.s=falseB then some (.mk ⟨1,2,0,⟨#[]⟩,⟨#[]⟩⟩ [])
 else if t.kind=2/\keyB t.s=false then some (.mk ⟨2,0,0,⟨#[]⟩,⟨t.s.toArray⟩⟩ [])
 else none
inductive Job where
 | form (q:Nat)
 | loop (q:Nat) (x:Ex)
 | list (n:Nat) (acc:List Ex)
inductive Out where
 | ok (l:List Ex) (r:List Tk)
 | bad (r:List Tk)
 | tired
def isNext (s:List UInt8):List Tk->Bool
 | [] => false
 | t :: _ => decide (t.s=s)
def wrap (op:Nat):Out->Out
 | .ok l r => .ok [opN op l] r
 | o => o
def run:Nat->Job->List Tk->Out
 | 0,_,_ => .tired
 | f + 1,.form q,ts =>
  if q=5 then
   match ts with
   | [] => .bad []
   | t :: r =>
    match opAt 5 t.s with
    | some op => wrap op (run f (.form 5) r)
    | none =>
     if t.s=[40] then run f (.list 1 []) r
     else match opAt 6 t.s with
      | some op => if isNext [40] r then wrap op (run f (.list (arity op) []) r.tail) else .bad r
      | none => match leafN t with
       | some x => .ok [x] r
       | none => .bad (t :: r)
  else match run f (.form (q + 1)) ts with
   | .ok (x :: _) r => run f (.loop q x) r
   | o => o
 | f + 1,.loop q x,ts =>
  match ts with
  | [] => .ok [x] []
  | t :: r =>
   match opAt q t.s with
   | none => .ok [x] (t :: r)
   | some op => match run f (.form (q + 1)) r with
    | .ok (y :: _) r' => if q=2 then .ok [opN op [x,y]] r' else run f (.loop q (opN op [x,y])) r'
    | o => o
 | f + 1,.list n acc,ts =>
  match run f (.form 0) ts with
  | .ok (x :: _) r =>
   if acc.length + 1 < n then (if isNext [44] r then run f (.list n (acc ++ [x])) r.tail else .bad r)
   else (if isNext [41] r then .ok (acc ++ [x]) r.tail else .bad r)
  | o => o
def Ev (j:Job) (ts:List Tk) (o:Out):Prop:=o ≠ .tired/\∃ f0,∀ f,f0<=f->run f j ts=o
theorem Ev.unique {j:Job} {ts:List Tk} {o o':Out} (h:Ev j ts o) (h':Ev j ts o'):o=o':=by
 obtain ⟨_,f,hf⟩:=h
 obtain ⟨_,g,hg⟩:=h'
 rw [← hf (max f g) (Nat.le_max_left _ _),hg (max f g) (Nat.le_max_right _ _)]
theorem Ev.step {j:Job} {ts:List Tk} {o:Out} {f0:Nat} (h0:o ≠ .tired) (h:∀ f,f0<=f->run (f + 1) j ts=o):Ev j ts o :=
 ⟨h0,f0 + 1,fun f hf => by
  obtain ⟨g,rfl⟩:∃ g,f=g + 1:=⟨f - 1,by omega⟩
  exact h g (by omega)⟩
theorem ev_end:Ev (.form 5) [] (.bad []):=Ev.step (f0:=0) (by simp) fun f _ => by simp [run]
theorem ev_prefix {t:Tk} {r:List Tk} {op:Nat} {o:Out} (h:opAt 5 t.s=some op) (hr:Ev (.form 5) r o):Ev (.form 5) (t :: r) (wrap op o):=by
 obtain ⟨h0,g,hg⟩:=hr
 refine Ev.step (f0:=g) (by cases o <;> simp_all [wrap]) fun f hf => ?_
 simp only [run,if_pos,h,hg f hf]
theorem ev_paren {t:Tk} {r:List Tk} {o:Out} (h:opAt 5 t.s=none) (hp:t.s=[40]) (hr:Ev (.list 1 []) r o):Ev (.form 5) (t :: r) o:=by
 obtain ⟨h0,g,hg⟩:=hr
 rw [hp] at h
 refine Ev.step (f0:=g) h0 fun f hf => ?_
 simp only [run,if_pos,hp,h,hg f hf]
theorem ev_call {t:Tk} {r:List Tk} {op:Nat} {o:Out} (h:opAt 5 t.s=none) (hp:t.s ≠ [40]) (h6:opAt 6 t.s=some op) (hn:isNext [40] r=true) (hr:Ev (.list (arity op) []) r.tail o):Ev (.form 5) (t :: r) (wrap op o):=by
 obtain ⟨h0,g,hg⟩:=hr
 refine Ev.step (f0:=g) (by cases o <;> simp_all [wrap]) fun f hf => ?_
 simp only [run,if_pos,h,if_neg hp,h6,hn,hg f hf]
theorem ev_call_bad {t:Tk} {r:List Tk} {op:Nat} (h:opAt 5 t.s=none) (hp:t.s ≠ [40]) (h6:opAt 6 t.s=some op) (hn:isNext [40] r=false):Ev (.form 5) (t :: r) (.bad r) :=
 Ev.step (f0:=0) (by simp) fun f _ => by simp [run,h,hp,h6,hn]
theorem ev_leaf {t:Tk} {r:List Tk} {x:Ex} (h:opAt 5 t.s=none) (hp:t.s ≠ [40]) (h6:opAt 6 t.s=none) (hl:leafN t=some x):Ev (.form 5) (t :: r) (.ok [x] r) :=
 Ev.step (f0:=0) (by simp) fun f _ => by simp [run,h,hp,h6,hl]
theorem ev_leaf_bad {t:Tk} {r:List Tk} (h:opAt 5 t.s=none) (hp:t.s ≠ [40]) (h6:opAt 6 t.s=none) (hl:leafN t=none):Ev (.form 5) (t :: r) (.bad (t :: r)) :=
 Ev.step (f0:=0) (by simp) fun f _ => by simp [run,h,hp,h6,hl]
theorem ev_form {q:Nat} {ts r:List Tk} {x:Ex} {o:Out} (hq:q ≠ 5) (h1:Ev (.form (q + 1)) ts (.ok [x] r)) (h2:Ev (.loop q x) r o):Ev (.form q) ts o:=by
 obtain ⟨_,g1,hg1⟩:=h1
 obtain ⟨h0,g2,hg2⟩:=h2
 refine Ev.step (f0:=max g1 g2) h0 fun f hf => ?_
 simp only [run,if_neg hq,hg1 f (by omega),hg2 f (by omega)]
theorem ev_form_bad {q:Nat} {ts r:List Tk} (hq:q ≠ 5) (h1:Ev (.form (q + 1)) ts (.bad r)):Ev (.form q) ts (.bad r):=by
 obtain ⟨_,g1,hg1⟩:=h1
 refine Ev.step (f0:=g1) (by simp) fun f hf => ?_
 simp only [run,if_neg hq,hg1 f (by omega)]
theorem ev_loop_end {q:Nat} {x:Ex}:Ev (.loop q x) [] (.ok [x] []):=Ev.step (f0:=0) (by simp) fun f _ => by simp [run]
theorem ev_loop_none {q:Nat} {x:Ex} {t:Tk} {r:List Tk} (h:opAt q t.s=none):Ev (.loop q x) (t :: r) (.ok [x] (t :: r)):=Ev.step (f0:=0) (by simp) fun f _ => by simp [run,h]
theorem ev_loop_once {x y:Ex} {t:Tk} {r r':List Tk} {op:Nat} (h:opAt 2 t.s=some op) (h1:Ev (.form 3) r (.ok [y] r')):Ev (.loop 2 x) (t :: r) (.ok [opN op [x,y]] r'):=by
 obtain ⟨_,g1,hg1⟩:=h1
 refine Ev.step (f0:=g1) (by simp) fun f hf => ?_
 simp only [run,h,hg1 f (by omega),if_pos]
theorem ev_loop_more {q:Nat} {x y:Ex} {t:Tk} {r r':List Tk} {op:Nat} {o:Out} (hq:q ≠ 2) (h:opAt q t.s=some op) (h1:Ev (.form (q + 1)) r (.ok [y] r')) (h2:Ev (.loop q (opN op [x,y])) r' o):Ev (.loop q x) (t :: r) o:=by
 obtain ⟨_,g1,hg1⟩:=h1
 obtain ⟨h0,g2,hg2⟩:=h2
 refine Ev.step (f0:=max g1 g2) h0 fun f hf => ?_
 simp only [run,h,hg1 f (by omega),if_neg hq,hg2 f (by omega)]
theorem ev_loop_bad {q:Nat} {x:Ex} {t:Tk} {r r':List Tk} {op:Nat} (h:opAt q t.s=some op) (h1:Ev (.form (q + 1)) r (.bad r')):Ev (.loop q x) (t :: r) (.bad r'):=by
 obtain ⟨_,g1,hg1⟩:=h1
 refine Ev.step (f0:=g1) (by simp) fun f hf => ?_
 simp only [run,h,hg1 f (by omega)]
theorem ev_list_more {n:Nat} {acc:List Ex} {ts r:List Tk} {x:Ex} {o:Out} (h1:Ev (.form 0) ts (.ok [x] r)) (hn:acc.length + 1 < n) (hc:isNext [44] r=true) (h2:Ev (.list n (acc ++ [x])) r.tail o):Ev (.list n acc) ts o:=by
 obtain ⟨_,g1,hg1⟩:=h1
 obtain ⟨h0,g2,hg2⟩:=h2
 refine Ev.step (f0:=max g1 g2) h0 fun f hf => ?_
 simp only [run,hg1 f (by omega),if_pos hn,hc,if_true,hg2 f (by omega)]
theorem ev_list_more_bad {n:Nat} {acc:List Ex} {ts r:List Tk} {x:Ex} (h1:Ev (.form 0) ts (.ok [x] r)) (hn:acc.length + 1 < n) (hc:isNext [44] r=false):Ev (.list n acc) ts (.bad r):=by
 obtain ⟨_,g1,hg1⟩:=h1
 refine Ev.step (f0:=g1) (by simp) fun f hf => ?_
 simp [run,hg1 f (by omega),hn,hc]
theorem ev_list_last {n:Nat} {acc:List Ex} {ts r:List Tk} {x:Ex} (h1:Ev (.form 0) ts (.ok [x] r)) (hn:¬ acc.length + 1 < n) (hc:isNext [41] r=true):Ev (.list n acc) ts (.ok (acc ++ [x]) r.tail):=by
 obtain ⟨_,g1,hg1⟩:=h1
 refine Ev.step (f0:=g1) (by simp) fun f hf => ?_
 simp [run,hg1 f (by omega),hn,hc]
theorem ev_list_last_bad {n:Nat} {acc:List Ex} {ts r:List Tk} {x:Ex} (h1:Ev (.form 0) ts (.ok [x] r)) (hn:¬ acc.length + 1 < n) (hc:isNext [41] r=false):Ev (.list n acc) ts (.bad r):=by
 obtain ⟨_,g1,hg1⟩:=h1
 refine Ev.step (f0:=g1) (by simp) fun f hf => ?_
 simp [run,hg1 f (by omega),hn,hc]
theorem ev_list_bad {n:Nat} {acc:List Ex} {ts r:List Tk} (h1:Ev (.form 0) ts (.bad r)):Ev (.list n acc) ts (.bad r):=by
 obtain ⟨_,g1,hg1⟩:=h1
 refine Ev.step (f0:=g1) (by simp) fun f hf => ?_
 simp only [run,hg1 f (by omega)]
inductive Ch (q:Nat):Nat->Ex->List Tk->Out->Prop where
 | stop {h:Nat} {x:Ex} {ts:List Tk} (hq:h<=q):Ch q h x ts (.ok [x] ts)
 | next {h:Nat} {x y:Ex} {ts r:List Tk} {o:Out} (hq:q<=h) (h1:Ev (.loop h x) ts (.ok [y] r)) (h2:Ch q h y r o):Ch q (h + 1) x ts o
 | bad {h:Nat} {x:Ex} {ts r:List Tk} (hq:q<=h) (h1:Ev (.loop h x) ts (.bad r)):Ch q (h + 1) x ts (.bad r)
theorem form_bad {q h:Nat} (hq:q<=h) (h5:h<=5) {ts r:List Tk} (h2:Ev (.form h) ts (.bad r)):Ev (.form q) ts (.bad r):=by
 induction h with
 | zero =>
  have:q=0:=by omega
  subst this; exact h2
 | succ h ih =>
  rcases Nat.lt_or_ge q (h + 1) with g | g
  ·exact ih (by omega) (by omega) (ev_form_bad (by omega) h2)
  ·have:q=h + 1:=by omega
   subst this; exact h2
theorem form_of_chain {q h:Nat} (hq:q<=h) (h5:h<=5) {ts:List Tk} {x:Ex} {r:List Tk} (h1:Ev (.form h) ts (.ok [x] r)) {o:Out} (hc:Ch q h x r o):Ev (.form q) ts o:=by
 induction h generalizing x r o with
 | zero =>
  have:q=0:=by omega
  subst this
  cases hc with
  | stop _ => exact h1
 | succ h ih =>
  cases hc with
  | stop hle =>
   have:q=h + 1:=by omega
   subst this; exact h1
  | next hle hl hr => exact ih hle (by omega) (ev_form (by omega) h1 hl) hr
  | bad hle hl =>
   have h2:Ev (.form h) ts (.bad _):=ev_form (by omega) h1 hl
   exact form_bad hle (by omega) h2
theorem chain_none {q h:Nat} {x:Ex} {ts:List Tk} (hn:∀ p,q<=p->p < h->∀ t r,ts=t :: r->opAt p t.s=none):Ch q h x ts (.ok [x] ts):=by
 induction h with
 | zero => exact .stop (Nat.zero_le _)
 | succ h ih =>
  rcases Nat.lt_or_ge h q with g | g
  ·exact .stop g
  ·refine .next g ?_ (ih fun p h1 h2 => hn p h1 (by omega))
   cases ts with
   | nil => exact ev_loop_end
   | cons t r => exact ev_loop_none (hn h g (by omega) t r rfl)
theorem chain_skip {q p h:Nat} {x:Ex} {t:Tk} {r:List Tk} {o:Out} (hqp:q<=p) (hph:p < h) (hn:∀ m,p < m->m < h->opAt m t.s=none) (hc:Ch q (p + 1) x (t :: r) o):Ch q h x (t :: r) o:=by
 induction h with
 | zero => omega
 | succ h ih =>
  rcases Nat.lt_or_ge p h with g | g
  ·exact .next (by omega) (ev_loop_none (hn h g (by omega))) (ih g fun m h1 h2 => hn m h1 (by omega))
  ·have:p=h:=by omega
   subst this; exact hc
theorem chain_op {q p:Nat} {x y:Ex} {t:Tk} {r r':List Tk} {op:Nat} {o:Out} (hqp:q<=p) (hop:opAt p t.s=some op) (hy:Ev (.form (p + 1)) r (.ok [y] r')) (hc:Ch q (if p=2 then p else p + 1) (opN op [x,y]) r' o):Ch q (p + 1) x (t :: r) o:=by
 by_cases h2:p=2
 ·subst h2
  rw [if_pos rfl] at hc
  exact .next hqp (ev_loop_once hop hy) hc
 ·rw [if_neg h2] at hc
  cases hc with
  | stop hle => omega
  | next hle hl hr => exact .next hqp (ev_loop_more h2 hop hy hl) hr
  | bad hle hl => exact .bad hqp (ev_loop_more h2 hop hy hl)
end PsM
namespace PsLx
open LexM ExM PsM NumM ValM ShowM ParseM
set_option linter.unusedVariables false
def Kd (t:Tk):Prop:=t.kind=1 ∨ t.kind=3 ∨ t.kind=2 ∨ (t.kind=4/\t.s ≠ trueB/\t.s ≠ falseB)
theorem head_facts {c:UInt8} {r:List UInt8} {T:Tok} (p:Nat) (h:firstF (c :: r)=.tok T):(mk T p (c :: r)).s ≠ []/\(mk T p (c :: r)).s.length<=(c :: r).length/\(mk T p (c :: r)).t.length<=(c :: r).length/\Kd (mk T p (c :: r)):=by
 have hl:=first_len h
 obtain ⟨k,hk⟩:∃ k,T.len=k + 1:=⟨T.len - 1,by omega⟩
 have hs:(mk T p (c :: r)).s=c :: r.take k:=by show (c :: r).take T.len=_; rw [hk,List.take_succ_cons]
 have hsl:(mk T p (c :: r)).s.length<=(c :: r).length:=by show ((c :: r).take T.len).length<=_; rw [List.length_take]; omega
 rw [hs] at hsl
 have hne:c :: r.take k ≠ []:=by simp
 rw [first_cons] at h
 split at h
 ·obtain ⟨h1,h2,h3,h4⟩:=numT_tok h
  exact ⟨by rw [hs]; exact hne,by rw [hs]; exact hsl,by show T.t.length<=_; rw [h4]; simp,.inl h2⟩
 ·split at h
  ·obtain ⟨h1,_⟩:=wordT_tok h
   exact ⟨by rw [hs]; exact hne,by rw [hs]; exact hsl,by show T.t.length<=_; rw [h1]; simp,.inr (.inr (.inl (by show T.kind=2; rw [h1])))⟩
  ·rename_i hw
   split at h
   ·obtain ⟨m,u,h1,h2,rfl⟩:=quoT_tok h
    have:=quoF_len _ _ _ h1
    exact ⟨by rw [hs]; exact hne,by rw [hs]; exact hsl,by show u.length<=_; rw [List.length_cons]; omega,.inr (.inl rfl)⟩
   ·have hT:T.kind=4/\T.t=[]:=by
     unfold sgnT at h
     split at h
     ·injection h with h; subst h; exact ⟨rfl,rfl⟩
     ·split at h
      ·injection h with h; subst h; exact ⟨rfl,rfl⟩
      ·cases h
    refine ⟨by rw [hs]; exact hne,by rw [hs]; exact hsl,by show T.t.length<=_; rw [hT.2]; simp,.inr (.inr (.inr ⟨hT.1,?_,?_⟩))⟩
    ·rw [hs]; intro e; injection e with e _; subst e; exact hw (by decide)
    ·rw [hs]; intro e; injection e with e _; subst e; exact hw (by decide)
theorem tok_facts (l:List UInt8) (p:Nat):∀ ts,tokens l p=.ok ts->∀ t ∈ ts,t.s ≠ []/\t.s.length<=l.length/\t.t.length<=l.length/\Kd t:=by
 refine tokens_ind (M:=fun l p r => ∀ ts,r=.ok ts->∀ t ∈ ts,t.s ≠ []/\t.s.length<=l.length/\t.t.length<=l.length/\Kd t) ?_ ?_ ?_ ?_ l.length l p (Nat.le_refl _)
 ·intro p ts h t ht; injection h with h; subst h; cases ht
 ·intro r p ih ts h t ht
  obtain ⟨h1,h2,h3,h4⟩:=ih ts h t ht
  exact ⟨h1,by simp; omega,by simp; omega,h4⟩
 ·intro c r p e _ _ ts h; cases h
 ·intro c r p T hc hT ih ts h t ht
  cases hr:tokens ((c :: r).drop T.len) (p + T.len) with
  | bad q e => rw [hr] at h; cases h
  | ok us =>
   rw [hr] at h
   injection h with h; subst h
   rcases List.mem_cons.1 ht with rfl | ht
   ·exact head_facts p hT
   ·obtain ⟨h1,h2,h3,h4⟩:=ih us hr t ht
    have:((c :: r).drop T.len).length<=(c :: r).length:=by simp
    exact ⟨h1,by omega,by omega,h4⟩
theorem show_true:showL 2 1 []=trueB:=by rfl
theorem show_false:showL 2 0 []=falseB:=by rfl
end PsLx
end Go.Proofs.YtepikijjagoehaaGreatDoor
