/- LexSign Lex PsParse PrU TxPf: what these laws name of them. -/
import Derived.Laws.Rows
import Derived.WalkSmall
import Derived.Deep.RegionHeld3
import Derived.Deep.DeepCutAuto
import Derived.Shelf.Strings.Builder1
import Derived.Shelf.Strings.Builder2
import Derived.Shelf.Strings.OnBuilder
import Derived.Shelf.Small.Bits
import Derived.Shelf.Small.Wraps
import Derived.Shelf.Strings.BuilderF
import Derived.Shelf.Strings.BuilderK
import Derived.Shelf.Strconv.Atoi
import Derived.Shelf.Strconv.Itoa0
import Derived.Shelf.Strconv.Itoa1
import Derived.Shelf.LaysM
import Derived.Shelf.Strconv.Itoa2
import Derived.Shelf.Strconv.Itoa3
import Derived.Shelf.Strconv.AtoiErrFast
import Derived.Shelf.Strconv.ParseIntEmpty
import Derived.Shelf.Strconv.AtoiFail
import Derived.Shelf.Strconv.Clone
import Derived.Shelf.Strconv.SyntaxError
import Derived.Shelf.LaysC
import Derived.Shelf.Strconv.ToError
import Derived.Shelf.Strconv.Lower
import Derived.Shelf.Strconv.ParseUint10
import Derived.Shelf.Strconv.ParseUint10Empty
import Derived.Shelf.Strconv.ParseUint10Any
import Derived.Shelf.Strconv.ParseInt10
import Derived.Shelf.Strconv.AtoiLong
import Derived.Shelf.Strconv.AtoiInnerAll
import Derived.Shelf.Strconv.RangeError
import Derived.Shelf.Strconv.ToErrorRange
import Derived.Shelf.Strconv.AtoiAll
import Derived.Shelf.Strconv.ErrVarAll
import Derived.Shelf.Strings.Search1
import Derived.Shelf.Strings.Search2
import Derived.Shelf.Strings.Search3
import Derived.Shelf.Strings.Cut
import Derived.Shelf.Strings.Count
import Derived.Shelf.Strings.Shaped
import Derived.Shelf.Strings.Prefix
import Derived.Shelf.Strings.Split
import Derived.Shelf.Bits.Mul64
import Derived.Shelf.Unicode.DecodeSlow
import Derived.Shelf.Slices.Turned
import Derived.Shelf.Slices.Equal
import Derived.Ground.Names2Prog
import Derived.Shelf.Slices.Clone
import Derived.Shelf.Slices.Empties2
import Derived.Ground.SlgfProg
import Derived.Shelf.SlicesE.IndexFunc
import Derived.Ground.SlgmProg
import Derived.Shelf.SortM.Plain
import Derived.Shelf.SortM.SortNone
import Derived.Test.YtdefaeieiaegaaaGreatDoorProg
import Derived.Test.YtdefaeieiaegaaaGreatDoorChecked
import Derived.WalkKit
import Derived.ProofKit
import Derived.Outline
import Derived.WalkSpells
import Derived.Lib.Hide
import Derived.WalkLawsBesides
import Derived.BigQuiet
import Derived.Deep.QuietTactic
import GoSem.Claim
import Derived.Lib.Bytealg
import Derived.Lib.Small
import Derived.Lib.AtoiAll
import Derived.LaidLaws
import Derived.ChangeArms
import Derived.Lib.LaidTab
import Derived.ChangeOld
import Derived.WideShapes
import Derived.Below
import Derived.Deep.Draws
import Derived.Laws.OwnMore
import Derived.OwnWalk
import Derived.Tactics
import Derived.Tactics2
import Derived.Defers
import Derived.Recover
import Derived.Laws.Pointers
import Derived.Deep.RegionWith
import Derived.Maps.AppendAt
import Derived.Deep.AppendLies
import Derived.Deep.CutBlock
import Derived.Deep.DrawnRows
import Derived.RegionTactic
import Derived.BigRegion
import Derived.RegionDies
import Derived.Deep.RegionLaw
import Derived.IntWalk
import Derived.ChangeAlike
import Derived.RangeFuncNested
import Derived.RangeFuncBound
import Derived.RangeFuncCalls
import Derived.RangeFuncLeaves
import Derived.Shelf.Abstract
import Derived.Shelf.RegionOpen
import Derived.OwnWalkIn
import Derived.TacticsInMore
import Derived.LoopNIn
import Derived.LoopIn
import Derived.LaidMore
import Derived.RangeFuncBox
import Derived.Lib.AtoiTie
import Derived.Lib.ItoaMem
import Derived.Lib.UnsafeStr
import Derived.Lib.ItoaNum
import Derived.Lib.AppendIntMem
import Derived.Lib.ItoaLen
import Derived.Lib.IndexMore
import Derived.Lib.Split
import Derived.Lib.Strings
import Derived.Lib.ReplaceLaws
import Derived.Lib.CountLaws
import Derived.Lib.ConvBytes
import Derived.Lib.AtoiErrMem
import Derived.Laws.IdiomStrings
import Derived.Deep.LoopGhost
import Derived.Maps.Own
import Derived.Maps.OwnSet
import Derived.Maps.Range
import Derived.Maps.RangeWalk
import Derived.Laws.AppendOwnNone
import Derived.Sort.EncStr
import Derived.StringKeys
import Derived.Test.YtdefaeieiaegaaaGreatDoorKtE03
import Derived.Test.YtdefaeieiaegaaaGreatDoorKtE07
import Derived.Test.YtdefaeieiaegaaaGreatDoorKtE10
import Derived.Test.YtdefaeieiaegaaaGreatDoorKtE11
import Derived.Test.YtdefaeieiaegaaaGreatDoorKtE16
namespace Go.Proofs.YtdefaeieiaegaaaGreatDoor
set_option linter.unusedVariables false
namespace LexS
open Go.RowKit
open LexM LexB LexT Kit
set_option linter.unusedVariables false
def sg (k:Nat):List UInt8:=sgnL.getD k []
theorem pre2 (a b c:UInt8) (r:List UInt8):Lib.hasPrefix (c :: r) [a,b]=decide (c=a/\r.head?=some b):=by
 unfold Lib.hasPrefix
 cases r with
 | nil => simp [List.isPrefixOf]
 | cons d r =>
  rw [Bool.eq_iff_iff]
  simp [List.isPrefixOf]
  constructor
  ·rintro ⟨h1,h2⟩; exact ⟨h1.symm,h2.symm⟩
  ·rintro ⟨h1,h2⟩; exact ⟨h1.symm,h2.symm⟩
theorem pre1 (a c:UInt8) (r:List UInt8):Lib.hasPrefix (c :: r) [a]=decide (c=a):=by
 unfold Lib.hasPrefix
 rw [Bool.eq_iff_iff]
 simp [List.isPrefixOf]
 exact ⟨fun h => h.symm,fun h => h.symm⟩
/-- The first sign that fits is the token. -/
theorem sgn_hit (c : UInt8) (r : List UInt8) (k : Nat) (hk : k < 13) (h : Lib.hasPrefix (c :: r) (sg k) = true) (hno : ∀ i, i < k → Lib.hasPrefix (c :: r) (sg i) = false) :
    sgnT c r = .tok ⟨4, (sg k).length, 0, 0, []⟩ ∧ (c :: r).take (sg k).length = sg k := by
  have two : 2 ≤ k → ¬ ((c = 60 ∨ c = 33) ∧ r.head? = some 61) := fun hk2 => by
    have h0 := hno 0 (by omega)
    have h1 := hno 1 (by omega)
    rw [show sg 0 = [60, 61] from rfl, pre2, decide_eq_false_iff_not] at h0
    rw [show sg 1 = [33, 61] from rfl, pre2, decide_eq_false_iff_not] at h1
    rintro ⟨g | g, g2⟩
    · exact h0 ⟨g, g2⟩
    · exact h1 ⟨g, g2⟩
  unfold sgnT
  match k, hk with
  | 0, _ =>
    rw [show sg 0 = [60, 61] from rfl, pre2, decide_eq_true_eq] at h
    refine ⟨by rw [if_pos ⟨.inl h.1, h.2⟩]; rfl, ?_⟩
    cases r with
    | nil => simp at h
    | cons d r => have h2 := h.2; simp at h2; rw [h.1, h2]; rfl
  | 1, _ =>
    rw [show sg 1 = [33, 61] from rfl, pre2, decide_eq_true_eq] at h
    refine ⟨by rw [if_pos ⟨.inr h.1, h.2⟩]; rfl, ?_⟩
    cases r with
    | nil => simp at h
    | cons d r => have h2 := h.2; simp at h2; rw [h.1, h2]; rfl
  | 2, _ | 3, _ | 4, _ | 5, _ | 6, _ | 7, _ | 8, _ | 9, _ | 10, _ | 11, _ | 12, _ =>
    first
      | (rw [if_neg (two (by omega))]
         unfold sg sgnL at h ⊢
         simp only [List.getD_cons_succ, List.getD_cons_zero] at h ⊢
         rw [pre1, decide_eq_true_eq] at h
         subst h
         exact ⟨by rw [if_pos (by decide)]; rfl, rfl⟩)
theorem sgn_none (c:UInt8) (r:List UInt8) (hno:∀ i,i < 13->Lib.hasPrefix (c :: r) (sg i)=false):sgnT c r=.bad 3:=by
 have h0:=hno 0 (by omega); have h1:=hno 1 (by omega); have h2:=hno 2 (by omega); have h3:=hno 3 (by omega); have h4:=hno 4 (by omega); have h5:=hno 5 (by omega); have h6:=hno 6 (by omega)
 have h7:=hno 7 (by omega); have h8:=hno 8 (by omega); have h9:=hno 9 (by omega); have h10:=hno 10 (by omega); have h11:=hno 11 (by omega); have h12:=hno 12 (by omega)
 simp only [sg,sgnL,List.getD_cons_succ,List.getD_cons_zero,pre1,pre2,decide_eq_false_iff_not] at h0 h1 h2 h3 h4 h5 h6 h7 h8 h9 h10 h11 h12
 unfold sgnT
 rw [if_neg (fun g => by rcases g with ⟨g | g,g2⟩; exact h0 ⟨g,g2⟩; exact h1 ⟨g,g2⟩)]
 rw [if_neg]
 unfold sgnB
 simp [h2,h3,h4,h5,h6,h7,h8,h9,h10,h11,h12]
theorem sg_at (k:Nat) (h:k < 13) (w:World):(Instr.index 263 (.agg #[.string ⟨#[60,61]⟩,.string ⟨#[33,61]⟩,.string ⟨#[60]⟩,.string ⟨#[61]⟩,.string ⟨#[43]⟩,.string ⟨#[45]⟩,.string ⟨#[42]⟩,.string ⟨#[47]⟩,.string ⟨#[37]⟩,.string ⟨#[38]⟩,.string ⟨#[40]⟩,.string ⟨#[41]⟩,.string ⟨#[44]⟩]) (.int .i64 k)).run Tryz.prog w=.ok (.string ⟨(sg k).toArray⟩) w:=by
 obtain rfl | rfl | rfl | rfl | rfl | rfl | rfl | rfl | rfl | rfl | rfl | rfl | rfl:k=0 ∨ k=1 ∨ k=2 ∨ k=3 ∨ k=4 ∨ k=5 ∨ k=6 ∨ k=7 ∨ k=8 ∨ k=9 ∨ k=10 ∨ k=11 ∨ k=12:=by omega
 all_goals kernel_rfl
theorem pre_any (s p:ByteArray) (w:World):Calls Tryz.prog 15 #[.string s,.string p] w fun e w' => e=.returned (.bool (Lib.hasPrefix s.data.toList p.data.toList))/\w=w' :=
 (Tryz.strings_HasPrefix s p w).mono fun _ _ h => ⟨h.1,h.2.symm⟩
theorem sgn_cells {w : World} (h : StrTab.Is Tryz.prog w "lychway/lex.signs" sgnL) (i : Nat) (hi : i < 13) : w.cell? ⟨7, i, none⟩ = some (.string ⟨(sg i).toArray⟩) :=
 StrTab.Is.cell h (g:=7) (by kernel_rfl) i hi
set_option maxHeartbeats 1000000 in
theorem sign_any (s:ByteArray) (h0:0 < s.size):∃ (k vk n e:Int) (u t:ByteArray),Tells (sgnT s[0] (s.data.toList.drop 1)) s.data.toList k vk n e u t ∧
  ∀ w:World,Vars w->Calls Tryz.prog 220 #[.string s] w fun x w' => x=.returned (.tuple #[.agg #[.int .i64 k,.int .i64 0,.string u,.int .i64 vk,.int .i64 n,.string t],.int .i64 e])/\Below w.heap.size w w':=by
 have hcr:s.data.toList=s[0] :: s.data.toList.drop 1:=by have:=drop_cons s 0 h0; rwa [List.drop_zero] at this
 obtain ⟨k,vk,n,e,u,t,ht,hY,hN⟩:∃ (k vk n e:Int) (u t:ByteArray),Tells (sgnT s[0] (s.data.toList.drop 1)) s.data.toList k vk n e u t ∧
   (∀ i,i < 13->Lib.hasPrefix s.data.toList (sg i)=true->(∀ j,j < i->Lib.hasPrefix s.data.toList (sg j)=false)->k=4/\vk=0/\n=0/\e=0/\u=⟨(sg i).toArray⟩/\t=⟨#[]⟩) ∧
   ((∀ j,j < 13->Lib.hasPrefix s.data.toList (sg j)=false)->k=0/\vk=0/\n=0/\e=3/\u=⟨#[]⟩/\t=⟨#[]⟩):=by
  by_cases hx:∃ i,i < 13/\Lib.hasPrefix s.data.toList (sg i)=true/\∀ j,j < i->Lib.hasPrefix s.data.toList (sg j)=false
  ·obtain ⟨i,hi,h1,h2⟩:=hx
   refine ⟨4,0,0,0,⟨(sg i).toArray⟩,⟨#[]⟩,?_,fun i' hi' g1 g2 => ?_,fun g => ?_⟩
   ·have h1':=h1; have h2':=h2
    rw [hcr] at h1' h2'
    obtain ⟨a,b⟩:=sgn_hit _ _ i hi h1' h2'
    rw [a]
    refine ⟨rfl,rfl,?_,rfl,rfl,rfl⟩
    rw [hcr]; exact b.symm
   ·have e:i'=i:=by
     rcases Nat.lt_trichotomy i' i with x | x | x
     ·rw [h2 i' x] at g1; cases g1
     ·exact x
     ·rw [g2 i x] at h1; cases h1
    rw [e]; exact ⟨rfl,rfl,rfl,rfl,rfl,rfl⟩
   ·rw [g i hi] at h1; cases h1
  ·have hall:∀ m j,j < m->m<=13->Lib.hasPrefix s.data.toList (sg j)=false:=by
    intro m
    induction m with
    | zero => intro j hj; omega
    | succ m ih =>
     intro j hj hm
     by_cases g:j < m
     ·exact ih j g (by omega)
     ·obtain rfl:j=m:=by omega
      cases hh:Lib.hasPrefix s.data.toList (sg j) with
      | false => rfl
      | true => exact absurd ⟨j,by omega,hh,fun i hi => ih i hi (by omega)⟩ hx
   refine ⟨0,0,0,3,⟨#[]⟩,⟨#[]⟩,?_,fun i' hi' g1 _ => ?_,fun _ => ⟨rfl,rfl,rfl,rfl,rfl,rfl⟩⟩
   ·have h3:∀ j,j < 13->Lib.hasPrefix (s[0] :: s.data.toList.drop 1) (sg j)=false:=fun j hj => by rw [← hcr]; exact hall 13 j hj (Nat.le_refl _)
    rw [sgn_none _ _ h3]; exact ⟨rfl,by decide⟩
   ·rw [hall 13 i' hi' (Nat.le_refl _)] at g1; cases g1
 refine ⟨k,vk,n,e,u,t,ht,fun w hv => ?_⟩
 have q0:=sgn_cells hv.sgn 0 (by omega); have q1:=sgn_cells hv.sgn 1 (by omega); have q2:=sgn_cells hv.sgn 2 (by omega); have q3:=sgn_cells hv.sgn 3 (by omega); have q4:=sgn_cells hv.sgn 4 (by omega); have q5:=sgn_cells hv.sgn 5 (by omega); have q6:=sgn_cells hv.sgn 6 (by omega)
 have q7:=sgn_cells hv.sgn 7 (by omega); have q8:=sgn_cells hv.sgn 8 (by omega); have q9:=sgn_cells hv.sgn 9 (by omega); have q10:=sgn_cells hv.sgn 10 (by omega); have q11:=sgn_cells hv.sgn 11 (by omega); have q12:=sgn_cells hv.sgn 12 (by omega)
 have hg:7 < w.heap.size:=by
  rcases Nat.lt_or_ge 7 w.heap.size with h | h
  ·exact h
  ·simp [World.cell?,Array.getElem?_eq_none h] at q0
 simp only [sg,sgnL,List.getD_cons_succ,List.getD_cons_zero] at q0 q1 q2 q3 q4 q5 q6 q7 q8 q9 q10 q11 q12
 have HY:=Lib.hid hY
 have HN:=Lib.hid hN
 clear hY hN ht hv
 go_enter Tryz.func220,Tryz.ntmps220
 go_wp2_with fail
 go_loop [5,7] (fun _ i => ∃ j:Nat,j<=13/\i=.int .i64 j/\∀ m,m < j->Lib.hasPrefix s.data.toList (sg m)=false) (fun _ i => 13 - (intOf i).toNat)
 case atStart => exact ⟨0,by omega,rfl,fun m hm => by omega⟩
 case round =>
  obtain ⟨j,hj,rfl,hno⟩:=hrel
  have HO:=Lib.hid hno
  clear hno
  clear q0 q1 q2 q3 q4 q5 q6 q7 q8 q9 q10 q11 q12
  by_cases hlt:j < 13
  ·have ix:=fun W => sg_at j hlt W
   obtain ⟨p,hp⟩:∃ p:ByteArray,ByteArray.mk (sg j).toArray=p:=⟨_,rfl⟩
   have c1:=fun W => pre_any s p W
   have hpp:Lib.hasPrefix s.data.toList p.data.toList=Lib.hasPrefix s.data.toList (sg j):=by rw [← hp]
   obtain ⟨b,hb⟩:∃ b,Lib.hasPrefix s.data.toList (sg j)=b:=⟨_,rfl⟩
   rw [hpp,hb] at c1
   rw [hp] at ix
   have C1:=Lib.hid c1
   have HB:=Lib.hid hb
   have HP:=Lib.hid hp
   clear c1 hb hpp hp
   cases b
   ·go_wp2_with fail
    refine (C1.out _).mono ?_; rintro e w1 ⟨rfl,rfl⟩
    go_wp2_with fail
    go_round
    case rel => exact ⟨j + 1,by omega,by go_num,fun m hm => by
     by_cases g:m=j
     ·subst g; exact HB.out
     ·exact HO.out m (by omega)⟩
    case measure => simp [intOf]; omega
   ·have hY:=HY.out j hlt HB.out HO.out
    rw [HP.out] at hY
    obtain ⟨rfl,rfl,rfl,rfl,rfl,rfl⟩:=hY
    clear HY HN HP HB HO
    go_wp2_with fail
    refine (C1.out _).mono ?_; rintro e w1 ⟨rfl,rfl⟩
    go_wp2_with fail
    refine bodyPost_ret (v:=.tuple #[.agg #[.int .i64 4,.int .i64 0,.string u,.int .i64 0,.int .i64 0,.string ⟨#[]⟩],.int .i64 0]) (by simp [results,Tryz.results220,go_sem]) rfl ⟨rfl,b_new _ _⟩
  ·have hN:=HN.out fun m hm => HO.out m (by omega)
   obtain ⟨rfl,rfl,rfl,rfl,rfl,rfl⟩:=hN
   clear HY HN HO
   go_wp2_with fail
   refine bodyPost_ret (v:=.tuple #[.agg #[.int .i64 0,.int .i64 0,.string ⟨#[]⟩,.int .i64 0,.int .i64 0,.string ⟨#[]⟩],.int .i64 3]) (by simp [results,Tryz.results220,go_sem]) rfl ⟨rfl,b_new _ _⟩
theorem first_any (s:ByteArray) (hs:s.size<=140737488351232) (h0:0 < s.size):∃ (k vk n e:Int) (u t:ByteArray),Tells (firstF s.data.toList) s.data.toList k vk n e u t ∧
  ∀ w:World,Vars w->Calls Tryz.prog 191 #[.string s] w fun x w' => x=.returned (.tuple #[.agg #[.int .i64 k,.int .i64 0,.string u,.int .i64 vk,.int .i64 n,.string t],.int .i64 e])/\Below w.heap.size w w':=by
 have hcr:s.data.toList=s[0] :: s.data.toList.drop 1:=by have:=drop_cons s 0 h0; rwa [List.drop_zero] at this
 have hf:firstF s.data.toList=if digB s[0] then numT (s.data.toList.takeWhile digB) else if lowB s[0] then wordT (s.data.toList.takeWhile alnB) else if s[0]=34 then quoT (s.data.toList.drop 1) else sgnT s[0] (s.data.toList.drop 1):=by
  conv => lhs; rw [hcr,first_cons]
  rw [← hcr]
 have hpi:(0:Int) < s.size:=by omega
 have c1:=fun W => isDigit_any s[0] W
 have c2:=fun W => isLetter_any s[0] W
 have t34:=byte_is s[0] 34 (by decide)
 rw [show ((34:Nat):Int)=34 from rfl] at t34
 rw [hf]
 cases b1:digB s[0] with
 | true =>
  rw [if_pos rfl]
  obtain ⟨k,vk,n,e,u,t,ht,hc⟩:=number_any s hs h0 b1
  refine ⟨k,vk,n,e,u,t,ht,fun w hv => ?_⟩
  rw [b1] at c1
  have C1:=Lib.hid c1
  have C3:=Lib.hid hc
  have HV:=Lib.hid hv
  clear c1 c2 hc hv hcr hf ht b1 t34
  go_enter Tryz.func191,Tryz.ntmps191
  go_wp2_with fail
  refine (C1.out _).mono ?_; rintro e w1 ⟨rfl,rfl⟩
  go_wp2_with fail
  refine (C3.out _ (HV.out.below (b_new w _))).mono ?_; rintro e w1 ⟨rfl,hb1⟩
  obtain ⟨c1,d1⟩:=bcell hb1
  have hz:w.heap.size < w1.heap.size:=Nat.lt_of_lt_of_le (by simp) hb1.size
  go_wp2_with fail
  refine bodyPost_ret (v:=.tuple #[.agg #[.int .i64 k,.int .i64 0,.string u,.int .i64 vk,.int .i64 n,.string t],.int .i64 e]) (by simp [results,Tryz.results191,go_sem,c1]) rfl ⟨rfl,?_⟩
  exact b_set6 (b_then hb1) _ (Nat.le_refl _) _ _ _ _ _ _
 | false =>
  rw [if_neg (by decide)]
  rw [b1] at c1
  cases b2:lowB s[0] with
  | true =>
   rw [if_pos rfl]
   obtain ⟨k,vk,n,e,u,t,ht,hc⟩:=word_any s hs
   refine ⟨k,vk,n,e,u,t,ht,fun w hv => ?_⟩
   rw [b2] at c2
   have C1:=Lib.hid c1
   have C2:=Lib.hid c2
   have C3:=Lib.hid hc
   clear c1 c2 hc hv hcr hf ht b1 b2 t34
   go_enter Tryz.func191,Tryz.ntmps191
   go_wp2_with fail
   refine (C1.out _).mono ?_; rintro e w1 ⟨rfl,rfl⟩
   go_wp2_with fail
   refine (C2.out _).mono ?_; rintro e w1 ⟨rfl,rfl⟩
   go_wp2_with fail
   refine (C3.out _).mono ?_; rintro e w1 ⟨rfl,hb1⟩
   obtain ⟨c1,d1⟩:=bcell hb1
   have hz:w.heap.size < w1.heap.size:=Nat.lt_of_lt_of_le (by simp) hb1.size
   go_wp2_with fail
   refine bodyPost_ret (v:=.tuple #[.agg #[.int .i64 k,.int .i64 0,.string u,.int .i64 vk,.int .i64 n,.string t],.int .i64 e]) (by simp [results,Tryz.results191,go_sem,c1]) rfl ⟨rfl,?_⟩
   exact b_set6 (b_then hb1) _ (Nat.le_refl _) _ _ _ _ _ _
  | false =>
   rw [if_neg (by decide)]
   rw [b2] at c2
   by_cases h34:s[0]=34
   ·rw [if_pos h34]
    obtain ⟨k,vk,n,e,u,t,ht,hc⟩:=quote_any s hs h0
    refine ⟨k,vk,n,e,u,t,ht,fun w hv => ?_⟩
    have t34':((s[0].toNat:Int) == 34)=true:=by rw [t34]; exact decide_eq_true h34
    have C1:=Lib.hid c1
    have C2:=Lib.hid c2
    have C3:=Lib.hid hc
    clear c1 c2 hc hv hcr hf ht b1 b2 t34 h34
    go_enter Tryz.func191,Tryz.ntmps191
    go_wp2_with fail
    refine (C1.out _).mono ?_; rintro e w1 ⟨rfl,rfl⟩
    go_wp2_with fail
    refine (C2.out _).mono ?_; rintro e w1 ⟨rfl,rfl⟩
    go_wp2_with fail
    refine (C3.out _).mono ?_; rintro e w1 ⟨rfl,hb1⟩
    obtain ⟨c1,d1⟩:=bcell hb1
    have hz:w.heap.size < w1.heap.size:=Nat.lt_of_lt_of_le (by simp) hb1.size
    go_wp2_with fail
    refine bodyPost_ret (v:=.tuple #[.agg #[.int .i64 k,.int .i64 0,.string u,.int .i64 vk,.int .i64 n,.string t],.int .i64 e]) (by simp [results,Tryz.results191,go_sem,c1]) rfl ⟨rfl,?_⟩
    exact b_set6 (b_then hb1) _ (Nat.le_refl _) _ _ _ _ _ _
   ·rw [if_neg h34]
    obtain ⟨k,vk,n,e,u,t,ht,hc⟩:=sign_any s h0
    refine ⟨k,vk,n,e,u,t,ht,fun w hv => ?_⟩
    have t34':((s[0].toNat:Int) == 34)=false:=by rw [t34]; exact decide_eq_false h34
    have C1:=Lib.hid c1
    have C2:=Lib.hid c2
    have C3:=Lib.hid hc
    have HV:=Lib.hid hv
    clear c1 c2 hc hv hcr hf ht b1 b2 t34 h34
    go_enter Tryz.func191,Tryz.ntmps191
    go_wp2_with fail
    refine (C1.out _).mono ?_; rintro e w1 ⟨rfl,rfl⟩
    go_wp2_with fail
    refine (C2.out _).mono ?_; rintro e w1 ⟨rfl,rfl⟩
    go_wp2_with fail
    refine (C3.out _ (HV.out.below (b_new w _))).mono ?_; rintro e w1 ⟨rfl,hb1⟩
    obtain ⟨c1,d1⟩:=bcell hb1
    have hz:w.heap.size < w1.heap.size:=Nat.lt_of_lt_of_le (by simp) hb1.size
    go_wp2_with fail
    refine bodyPost_ret (v:=.tuple #[.agg #[.int .i64 k,.int .i64 0,.string u,.int .i64 vk,.int .i64 n,.string t],.int .i64 e]) (by simp [results,Tryz.results191,go_sem,c1]) rfl ⟨rfl,?_⟩
    exact b_set6 (b_then hb1) _ (Nat.le_refl _) _ _ _ _ _ _
end LexS
namespace Lex
open Go.RowKit
open LexM LexB LexT LexS Kit
set_option linter.unusedVariables false
theorem own_below {w w1:World} {base:Nat} {e:TypeId} {size:Nat} {v:Value} {n:Nat} {xs:List Value} (h:w.ownsRow base e size v n xs) (hb:Below w.heap.size w w1):w1.ownsRow base e size v n xs :=
 h.kept (row:=none) ⟨hb.os,hb.tape,hb.output,hb.size,fun k hk _ => hb.block k hk⟩ (by cases hv:v.ownBlock <;> simp)
def tkC (x:Tk):List Value:=[.int .i64 x.kind,.int .i64 x.pos,.string ⟨x.s.toArray⟩,.int .i64 x.vk,.int .i64 x.n,.string ⟨x.t.toArray⟩]
def tksC (l:List Tk):List Value:=l.flatMap tkC
theorem tksC_snoc (l:List Tk) (x:Tk):tksC l ++ tkC x=tksC (l ++ [x]):=by unfold tksC; rw [List.flatMap_append]; simp
theorem tksC_len (l:List Tk):(tksC l).length=l.length * 6:=by
 induction l with
 | nil => rfl
 | cons x l ih =>
  have:tksC (x :: l)=tkC x ++ tksC l:=by unfold tksC; rw [List.flatMap_cons]
  rw [this,List.length_append,ih,List.length_cons]; show 6 + _=_; omega
structure TInv (w:World) (s:ByteArray) (k:Nat) (acc:List Tk) (v:Value) (wr:World):Prop where
 le:k<=s.size
 own:wr.ownsRow w.heap.size 168 6 v acc.length (tksC acc)
 is:fin [] (tokens s.data.toList 0)=fin acc (tokens (s.data.toList.drop k) k)
 below:Below w.heap.size w wr
 few:acc.length<=k
def Out (l:List UInt8) (w:World) (x:Ending) (w':World):Prop :=
 ∃ v:Value,x=.returned (.tuple #[v,.int .i64 (lexR l).2.1,.int .i64 (lexR l).2.2])/\w'.ownsRow w.heap.size 168 6 v (lexR l).1.length (tksC (lexR l).1)/\Below w.heap.size w w'
theorem Out.mk_ {l:List UInt8} {w w':World} {v:Value} {a e:Int} {ts:List Tk} {p:Nat} (h:lexR l=(ts,p,e)) (ha:a=p) (ho:w'.ownsRow w.heap.size 168 6 v ts.length (tksC ts)) (hb:Below w.heap.size w w'):Out l w (.returned (.tuple #[v,.int .i64 a,.int .i64 e])) w':=by
 refine ⟨v,?_,?_,hb⟩
 ·rw [h,ha]
 ·rw [h]; exact ho
theorem drop_of (s:ByteArray) (k:Nat):(s.extract k s.size).data.toList=s.data.toList.drop k:=by
 rw [Lib.extract_data,List.take_of_length_le]
 rw [List.length_drop,len_size]
 omega
theorem infoTok:(Tryz.prog.info? 168).map (fun i => (i.zero,i.size,i.bytes))=some (some (.agg #[.int .i64 0,.int .i64 0,.string ⟨#[]⟩,.int .i64 0,.int .i64 0,.string ⟨#[]⟩]),6,64):=by kernel_rfl
theorem TInv.space {w wr:World} {s:ByteArray} {k:Nat} {acc:List Tk} {v:Value} (h:TInv w s k acc v wr) (hk:k < s.size) (hc:s[k]=32):TInv w s (k + 1) acc v wr:=by
 refine ⟨hk,h.own,?_,h.below,by have:=h.few; omega⟩
 rw [h.is,drop_cons s k hk,hc,tokens_space]
theorem TInv.bad {w wr:World} {s:ByteArray} {k:Nat} {acc:List Tk} {v:Value} {q:Int} (h:TInv w s k acc v wr) (hs:s.size<=160) (hk:k < s.size) (hc:s[k] ≠ 32) (hf:firstF (s.data.toList.drop k)=.bad q):lexR s.data.toList=([],k,q):=by
 rw [lexR_of hs,h.is]
 rw [drop_cons s k hk] at hf ⊢
 rw [tokens_bad hc hf]; rfl
theorem TInv.end_ {w wr:World} {s:ByteArray} {k:Nat} {acc:List Tk} {v:Value} (h:TInv w s k acc v wr) (hs:s.size<=160) (hk:¬ k < s.size):lexR s.data.toList=(acc,0,0):=by
 rw [lexR_of hs,h.is,List.drop_eq_nil_of_le (by rw [len_size]; omega)]
 show (acc ++ [],0,0)=_
 rw [List.append_nil]
theorem TInv.tok {w wr w3:World} {s:ByteArray} {k:Nat} {acc:List Tk} {v v':Value} {T:Tok} {u:ByteArray} (h:TInv w s k acc v wr) (hk:k < s.size) (hc:s[k] ≠ 32) (hf:firstF (s.data.toList.drop k)=.tok T) (hu:u.data.toList=(s.data.toList.drop k).take T.len)
  (ho:w3.ownsRow w.heap.size 168 6 v' (acc.length + 1) (tksC (acc ++ [LexM.mk T k (s.data.toList.drop k)]))) (hb:Below w.heap.size w w3):TInv w s (k + u.size) (acc ++ [LexM.mk T k (s.data.toList.drop k)]) v' w3:=by
 have hl:=first_len hf
 have hus:u.size=T.len:=by
  rw [← len_size,hu,List.length_take]
  omega
 rw [List.length_drop,len_size] at hl
 refine ⟨by omega,by rw [List.length_append]; exact ho,?_,hb,by have:=h.few; simp; omega⟩
 rw [h.is]
 rw [drop_cons s k hk] at hf
 conv => lhs; rw [drop_cons s k hk,tokens_tok hc hf,← drop_cons s k hk,List.drop_drop,fin_cons]
 rw [hus]
theorem u_len {s u:ByteArray} {k:Nat} {T:Tok} (hf:firstF (s.data.toList.drop k)=.tok T) (hu:u.data.toList=(s.data.toList.drop k).take T.len):1<=u.size/\u.size<=s.size:=by
 have hl:=first_len hf
 have:u.size=T.len:=by
  rw [← len_size,hu,List.length_take]; omega
 rw [List.length_drop,len_size] at hl
 omega
theorem tkC_mk {T:Tok} {k:Nat} {l:List UInt8} {kd vk n:Int} {u t:ByteArray} (h1:T.kind=kd) (h2:u.data.toList=l.take T.len) (h3:T.vk=vk) (h4:T.n=n) (h5:t.data.toList=T.t):[.int .i64 kd,.int .i64 (k:Int),.string u,.int .i64 vk,.int .i64 n,.string t]=tkC (LexM.mk T k l):=by
 unfold tkC LexM.mk
 simp only [h1,h3,h4,← h2,← h5]
set_option maxHeartbeats 1000000 in
set_option maxRecDepth 100000 in
theorem tokens_any (s:ByteArray) (w:World) (hs:s.size<=140737488351232) (hv:Vars w):Calls Tryz.prog 161 #[.string s] w (Out s.data.toList w):=by
 obtain ⟨i0,hi,hz0,hz1,hz2⟩:=info_parts infoTok
 by_cases hbig:160 < s.size
 ·have hR:lexR s.data.toList=([],0,1):=lexR_long hbig
  have HR:=Lib.hid hR
  clear hR
  go_enter Tryz.func161,Tryz.ntmps161
  go_wp2_with fail
  go_ret3
  exact Out.mk_ HR.out rfl (World.ownsRow_nil _ _ _ _) (Below.refl _ _)
 ·have h0:TInv w s 0 [] (.slice none 0 0) w:=⟨Nat.zero_le _,World.ownsRow_nil _ _ _ _,by rw [List.drop_zero],Below.refl _ _,Nat.le_refl _⟩
  have H0:=Lib.hid h0
  have HV:=Lib.hid hv
  clear h0 hv
  go_enter Tryz.func161,Tryz.ntmps161
  go_wp2_with fail
  go_loopw [5,6,7,8] (fun v i _ _ wr => ∃ (k:Nat) (acc:List Tk),i=.int .i64 k/\TInv w s k acc v wr) (fun _ i _ _ _ => s.size - (intOf i).toNat)
  case atStart => exact ⟨0,[],rfl,H0.out⟩
  case round =>
   obtain ⟨k,acc,rfl,hI⟩:=hrel
   have hle:=hI.le
   have hfew:=hI.few
   have HI:=Lib.hid hI
   clear hI
   by_cases hlt:k < s.size
   ·by_cases h32:s[k]=32
    ·have t1:((s[k].toNat:Int) == 32)=true:=by rw [h32]; rfl
     have hN:=HI.out.space hlt h32
     have HN:=Lib.hid hN
     clear hN h32
     go_wp2_with fail
     go_roundw
     case rel => exact ⟨k + 1,acc,by go_num,HN.out⟩
     case measure => simp [intOf]; omega
    ·have t1:((s[k].toNat:Int) == 32)=false:=by have:=byte_is s[k] 32 (by decide); rw [show ((32:Nat):Int)=32 from rfl] at this; rw [this]; exact decide_eq_false h32
     obtain ⟨kd,vk,n,e,u,t,ht,hc⟩:=first_any (s.extract k s.size) (by simp; omega) (by simp; omega)
     rw [drop_of] at ht
     have H32:=Lib.hid h32
     have HC:=Lib.hid hc
     clear h32 hc
     cases hf:firstF (s.data.toList.drop k) with
     | bad q =>
      rw [hf] at ht
      obtain ⟨rfl,hq⟩:=ht
      have hR:=HI.out.bad (by omega) hlt H32.out hf
      have HR:=Lib.hid hR
      have t2:(e != 0)=true:=bne_iff_ne.2 hq
      clear hR hf hq
      go_wp2_with fail
      refine (HC.out _ (HV.out.below HI.out.below)).mono ?_; rintro x w1 ⟨rfl,hb1⟩
      go_wp2_with fail
      go_ret3
      exact Out.mk_ HR.out rfl (World.ownsRow_nil _ _ _ _) (HI.out.below.trans ((b_more hb1 _).mono HI.out.below.size))
     | tok T =>
      rw [hf] at ht
      obtain ⟨rfl,g1,g2,g3,g4,g5⟩:=ht
      obtain ⟨hu1,hu2⟩:=u_len hf g2
      have hcell:=tkC_mk (k:=k) g1 g2 g3 g4 g5
      have HF:=Lib.hid hf
      have HG2:=Lib.hid g2
      have HCell:=Lib.hid hcell
      clear hf g1 g2 g3 g4 g5 hcell
      go_wp2_with fail
      refine (HC.out _ (HV.out.below HI.out.below)).mono ?_; rintro x w1 ⟨rfl,hb1⟩
      have hown:=own_below HI.out.own hb1
      have hlt1:=hown.lt
      have HL:=Lib.hid hlt1
      have hbw:Below w.heap.size w w1:=HI.out.below.trans (hb1.mono HI.out.below.size)
      have hbs:=hbw.size
      clear hlt1
      go_wp2_with (at_builtin; refine wpList_append_own _ rfl _ _ 160 rfl w.heap.size 168 i0 (.agg #[.int .i64 0,.int .i64 0,.string ⟨#[]⟩,.int .i64 0,.int .i64 0,.string ⟨#[]⟩]) 6 64 Tryz.underlying160 hi hz0 hz1 hz2 rfl (by decide) _ _ _ rfl ((hown.alloc _).alloc _) ⟨w1.heap.size + 1,0,none⟩ 1 1 [.int .i64 kd,.int .i64 (k:Int),.string u,.int .i64 vk,.int .i64 n,.string t] rfl rfl ?c1 ?c2 ?c3 ?c4 ?c5 ?_)
      case c1 =>
       intro j y hj
       match j,hj with
       | 0,hj => simp at hj; subst hj; simp [Addr.add]
       | 1,hj => simp at hj; subst hj; simp [Addr.add]
       | 2,hj => simp at hj; subst hj; simp [Addr.add]
       | 3,hj => simp at hj; subst hj; simp [Addr.add]
       | 4,hj => simp at hj; subst hj; simp [Addr.add]
       | 5,hj => simp at hj; subst hj; simp [Addr.add]
       | j + 6,hj => simp at hj
      case c2 => intro y hy; simp at hy; rcases hy with rfl | rfl | rfl | rfl | rfl | rfl <;> rfl
      case c3 => unfold maxLen; omega
      case c4 => omega
      case c5 => simp; omega
      intro v' w3 hown3 hgrow _
      rw [HCell.out,tksC_snoc] at hown3
      have k2:w3.cell? ⟨w1.heap.size,2,none⟩=some (.string u):=hgrow.cell (by simp) (fun e => by have:=(HL.out _ e.symm).2; exact absurd this (Nat.lt_irrefl _))
      have hb3:Below w.heap.size w w3:=((hbw.alloc (by omega) _).alloc (by simp; omega) _).grown hgrow (by simp; omega) (fun g hg => (HL.out g hg).1)
      have hN:=HI.out.tok hlt H32.out HF.out HG2.out hown3 hb3
      have HN:=Lib.hid hN
      have HB3:=Lib.hid hb3
      clear hN hown3 hgrow hb3
      go_wp2
      go_roundw
      case rel => exact ⟨k + u.size,_,by go_num,HN.out⟩
      case measure => simp [intOf]; omega
   ·have hR:=HI.out.end_ (by omega) hlt
    have HR:=Lib.hid hR
    clear hR
    go_wp2_with fail
    go_ret3
    exact Out.mk_ HR.out rfl HI.out.own HI.out.below
theorem lex_cases (l:List UInt8):(∃ ts,l.length<=160/\tokens l 0=.ok ts/\lexR l=(ts,0,0)) ∨ (160 < l.length/\lexR l=([],0,1)) ∨
  (∃ p e ts,l.length<=160/\p < l.length/\(e=1 ∨ e=3 ∨ e=7)/\lexR l=([],p,e)/\lexR (l.take p)=(ts,0,0)):=by
 by_cases h:160 < l.length
 ·exact .inr (.inl ⟨h,lexR_long h⟩)
 ·have hl:l.length<=160:=by omega
  cases ht:tokens l 0 with
  | ok ts => exact .inl ⟨ts,hl,rfl,by rw [lexR_of hl,ht]; rfl⟩
  | bad p e =>
   obtain ⟨_,h2,h3,ts,h4⟩:=wrong l 0 p e ht
   refine .inr (.inr ⟨p,e,ts,hl,by omega,h3,by rw [lexR_of hl,ht]; rfl,?_⟩)
   rw [Nat.sub_zero] at h4
   rw [lexR_of (by rw [List.length_take]; omega),h4]; rfl
theorem own_slice {w:World} {base:Nat} {e:TypeId} {size:Nat} {v:Value} {n:Nat} {xs:List Value} (h:w.ownsRow base e size v n xs):∃ A c,v=.slice A n c:=by
 rcases h.2 with ⟨h1,h2⟩ | ⟨g,cap,cur,h1,_⟩
 ·exact ⟨none,0,by rw [h2]; exact h1⟩
 ·exact ⟨some ⟨g,0,none⟩,cap,h1⟩
theorem own_form {w:World} {base:Nat} {e:TypeId} {size:Nat} {v:Value} {n:Nat} {xs:List Value} (h:w.ownsRow base e size v n xs) (hn:0 < n) :
  ∃ g cap,v=.slice (some ⟨g,0,none⟩) n cap/\base<=g/\g < w.heap.size/\n<=cap/\cap<=maxLen/\∀ j,j < n * size->w.cell? ⟨g,j,none⟩=xs[j]?:=by
 rcases h.2 with ⟨_,h2⟩ | ⟨g,cap,cur,h1,h2,h3,h4,h5,_⟩
 ·omega
 ·subst h1
  have hl:=h.lt g rfl
  exact ⟨g,cap,rfl,h2,hl.2,h4,h5,fun j hj => h.cellAt j hj⟩
end Lex
namespace PsE
open Go.RowKit
open LexM ExM Kit ExL ExP PsM PsT NmC Ps PsR PsL PsA PsF PsT2 PsD PsLx PsLf
set_option linter.unusedVariables false
theorem tksC_get (l:List Tk):∀ (i:Nat) (h:i < l.length) (j:Nat),j < 6->(Lex.tksC l)[i * 6 + j]?=(Ps.tkC l[i])[j]?:=by
 intro i h j hj
 have hx:l.drop i=l[i] :: l.drop (i + 1):=List.drop_eq_getElem_cons h
 have e:l=l.take i ++ (l[i] :: l.drop (i + 1)):=by rw [← hx,List.take_append_drop]
 have e2:Lex.tksC l=Lex.tksC (l.take i) ++ (Ps.tkC l[i] ++ Lex.tksC (l.drop (i + 1))):=by
  conv => lhs; rw [e]
  unfold Lex.tksC
  rw [List.flatMap_append,List.flatMap_cons]; rfl
 have e3:(Lex.tksC (l.take i)).length=i * 6:=by rw [Lex.tksC_len,List.length_take]; rw [Nat.min_eq_left (by omega)]
 rw [e2,List.getElem?_append_right (by rw [e3]; omega),e3,show i * 6 + j - i * 6=j by omega,List.getElem?_append_left (by show j < 6; exact hj)]
theorem env_of {w1:World} {base:Nat} {l:List UInt8} {ts:List Tk} {A:Option Addr} {c:Nat} (hlen:l.length<=160) (htk:tokens l 0=.ok ts) (ho:w1.ownsRow base 168 6 (.slice A ts.length c) ts.length (Lex.tksC ts)) (hT:ExN.Tab w1) (hv:Parse.Vars w1):∀ P,w1.heap.size<=P->Env w1 P A ts:=fun P hP => by
 refine ⟨Nat.le_trans (few l 0 ts htk) hlen,fun i h => ?_,hP,hT,fun t ht W hb => leaf_any t (tok_facts l 0 ts htk t ht).2.2.2 W (hv.below hb)⟩
 obtain ⟨g,cap,hA,_,_,_,_,q⟩:=Lex.own_form ho (by omega)
 injection hA with hA _ _
 exact ⟨g,hA,fun j hj => by rw [q (i * 6 + j) (by omega),tksC_get ts i h j hj]⟩
theorem full_of {l:List UInt8} {ts:List Tk} (htk:tokens l 0=.ok ts):Full ts:=fun t ht => (tok_facts l 0 ts htk t ht).1
theorem small_of {l:List UInt8} {ts:List Tk} (hlen:l.length<=160) (htk:tokens l 0=.ok ts):Small ts:=fun t ht => by
 obtain ⟨_,h1,h2,_⟩:=tok_facts l 0 ts htk t ht
 exact ⟨by omega,by omega⟩
def x0:Ex:=.mk ⟨0,0,0,⟨#[]⟩,⟨#[]⟩⟩ []
def PR (l:List UInt8) (x:Ex) (a er:Int):Prop :=
 (∃ (p:Nat) (e:Int),lexR l=([],p,e)/\e ≠ 0/\x=x0/\a=p/\er=e) ∨
 ∃ ts o,lexR l=(ts,0,0)/\Ev (.form 0) ts o/\((∃ y,o=.ok [y] []/\a=0/\er=y.checkE/\x=if y.checkE=0 then y else x0) ∨ ∃ r,((∃ y,o=.ok [y] r/\r ≠ []) ∨ o=.bad r)/\a=atOf l.length r/\er=3/\x=x0)
set_option maxRecDepth 100000 in
set_option maxHeartbeats 8000000 in
theorem Parse_any (s:ByteArray) (w:World) (hs:s.size<=140737488351232) (hv:LexT.Vars w) (hp:Parse.Vars w) (hT:ExN.Tab w) :
  Calls Tryz.prog 110 #[.string s] w (ParsedOut w (PR s.data.toList)):=by
 obtain ⟨W,hW⟩:∃ W,w.alloc (.cells #[.int .i64 0,.int .i64 0,.int .i64 0,.string ⟨#[]⟩,.string ⟨#[]⟩,.slice none 0 0] 50)=W:=⟨_,rfl⟩
 have hb:Below w.heap.size w W:=by rw [← hW]; exact b_new _ _
 have hsz:W.heap.size=w.heap.size + 1:=by rw [← hW]; simp
 have h1:W.heap[w.heap.size]?=some (.cells #[.int .i64 0,.int .i64 0,.int .i64 0,.string ⟨#[]⟩,.string ⟨#[]⟩,.slice none 0 0] 50 (0,0)):=by rw [← hW]; exact World.alloc_heap_new w _
 have hc:=Lex.tokens_any s W hs (hv.below hb)
 have hL:=Lex.lex_cases s.data.toList
 obtain ⟨R,hR⟩:∃ R,PR s.data.toList=R:=⟨_,rfl⟩
 have HW:=Lib.hid hW
 have HC:=Lib.hid hc
 have HL:=Lib.hid hL
 have HR:=Lib.hid hR
 rw [hR]
 clear hW hc hL hR
 go_enter Tryz.func110,Tryz.ntmps110
 go_upto_region 1 with fail
 rw [HW.out]
 go_wp2_with fail
 refine HC.out.mono ?_
 rintro e w1 ⟨v,rfl,ho,hb1⟩
 have k1:=(hb1.block _ (by omega)).trans h1
 have hB1:Below w.heap.size w w1:=hb.trans (hb1.mono hb.size)
 obtain ⟨c1,f1⟩:=cells_of k1
 have l1:=(Array.getElem?_eq_some_iff.1 k1).1
 clear HC h1 HW
 have hcases:(∃ ts,s.data.toList.length<=160/\tokens s.data.toList 0=.ok ts/\lexR s.data.toList=(ts,0,0)) ∨ ∃ (p:Nat) (e:Int),lexR s.data.toList=([],p,e)/\e ≠ 0:=by
  rcases HL.out with h | ⟨_,h⟩ | ⟨p,e,ts,_,_,he,h,_⟩
  ·exact .inl h
  ·exact .inr ⟨_,_,h,by decide⟩
  ·exact .inr ⟨p,e,h,by rcases he with rfl | rfl | rfl <;> decide⟩
 clear HL
 rcases hcases with ⟨ts,hlen,htk,hl⟩ | ⟨p,e,hl,he⟩
 ·rw [hl] at ho ⊢
  dsimp only
  obtain ⟨A,c,rfl⟩:=Lex.own_slice ho
  have hE:=env_of hlen htk ho (hT.below hB1) (hp.below hB1)
  obtain ⟨o,hev,hsh⟩:=PsTot.form_total ts
  have hP:=parsed_any ts A c (s.size:Int) w1 hE (full_of htk) (small_of hlen htk) o hev hsh
  unfold ParsedOut at hP
  have HP:=Lib.hid hP
  have HB1:=Lib.hid hB1
  have HEv:=Lib.hid hev
  have K1:=Lib.hid k1
  clear ho hb hb1 hB1 k1 hE hP hev hsh
  go_wp2_with fail
  refine HP.out.mono ?_
  rintro e w2 ⟨x,d,B,m,cp,a,er,rfl,hix,hR2,hb2⟩
  have k2:=(hb2.block _ l1).trans K1.out
  obtain ⟨c2,f2⟩:=cells_of k2
  have l2:=(Array.getElem?_eq_some_iff.1 k2).1
  have hbw2:Below w.heap.size w w2:=HB1.out.trans (hb2.mono HB1.out.size)
  obtain ⟨WS,hWS⟩:∃ W,S6 w2 w.heap.size (.int .i64 d.op) (.int .i64 d.k) (.int .i64 d.n) (.string d.s) (.string d.nm) (.slice B m cp)=W:=⟨_,rfl⟩
  have cS:=set6_box k2 (.int .i64 d.op) (.int .i64 d.k) (.int .i64 d.n) (.string d.s) (.string d.nm) (.slice B m cp)
  have hh:=fun b (hb:b ≠ w.heap.size) => s6_heap w2 w.heap.size b hb (.int .i64 d.op) (.int .i64 d.k) (.int .i64 d.n) (.string d.s) (.string d.nm) (.slice B m cp)
  have hgS:=s6_grown w2 w.heap.size (.int .i64 d.op) (.int .i64 d.k) (.int .i64 d.n) (.string d.s) (.string d.nm) (.slice B m cp)
  rw [hWS] at cS hh hgS
  have hbS:Below w.heap.size w WS:=hbw2.grown hgS hbw2.size (fun j e => by injection e with e; omega)
  have hixS:IsP (fun b => w.heap.size < b) WS x d B m:=IsP.keep (fun b hb _ => hh b (by have h1:w1.heap.size<=b:=hb; omega)) (fun b hb _ => by have h1:w1.heap.size<=b:=hb; show w.heap.size < b; omega) _ _ _ _ hix
  have hck:=ExC.check_any x d B m cp WS (IsP.is _ _ _ _ hixS) (hT.below hbS)
  obtain ⟨q,hq⟩:∃ q,x.checkE=q:=⟨_,rfl⟩
  rw [hq] at hck
  have HCK:=Lib.hid hck
  have HWS:=Lib.hid hWS
  have HBS:=Lib.hid hbS
  have CS:=Lib.hid cS
  have HIX:=Lib.hid hixS
  have lS:=(Array.getElem?_eq_some_iff.1 cS).1
  clear hck hWS hbS cS hh hgS hixS hix hb2 k2 hbw2 HP c1 f1 l1 K1 HB1
  rcases hR2 with ⟨ho,rfl,rfl⟩ | ⟨r,hr,rfl,rfl⟩
  ·go_upto_region 6 with fail
   unfold S6 at HWS
   rw [HWS.out]
   obtain ⟨c3,f3⟩:=cells_of CS.out
   clear c2 f2 l2 HWS
   go_wp2_with fail
   refine HCK.out.mono ?_
   rintro e w3 ⟨rfl,hb3⟩
   have k4:=(hb3.block _ lS).trans CS.out
   obtain ⟨c4,f4⟩:=cells_of k4
   have l4:=(Array.getElem?_eq_some_iff.1 k4).1
   have HB3:=Lib.hid (HBS.out.trans (hb3.mono HBS.out.size))
   have HI3:=Lib.hid (HIX.out.below hb3)
   clear c3 f3 hb3 k4 HCK HIX HBS lS CS
   by_cases hq0:q=0
   ·subst hq0
    go_wp2_with fail
    refine bodyPost_ret (v:=.tuple #[.agg #[.int .i64 d.op,.int .i64 d.k,.int .i64 d.n,.string d.s,.string d.nm,.slice B m cp],.int .i64 0,.int .i64 0]) (by simp [results,Tryz.results110,go_sem,c4]) rfl ⟨x,d,B,m,cp,0,0,rfl,?_,?_,LexT.b_set6 HB3.out _ (Nat.le_refl _) _ _ _ _ _ _⟩
    ·exact IsP.keep (fun b hb _ => s6_heap w3 w.heap.size b (by have h1:w.heap.size < b:=hb; omega) _ _ _ _ _ _) (fun b hb _ => Nat.le_of_lt hb) _ _ _ _ HI3.out
    ·rw [← HR.out]; exact .inr ⟨ts,o,hl,HEv.out,.inl ⟨x,ho,rfl,hq.symm,by rw [hq,if_pos rfl]⟩⟩
   ·have e1:(q == 0)=false:=beq_eq_false_iff_ne.2 hq0
    go_wp2_with fail
    refine bodyPost_ret (v:=.tuple #[.agg #[.int .i64 0,.int .i64 0,.int .i64 0,.string ⟨#[]⟩,.string ⟨#[]⟩,.slice none 0 0],.int .i64 0,.int .i64 q]) (by simp [results,Tryz.results110,go_sem,c4]) rfl ⟨x0,⟨0,0,0,⟨#[]⟩,⟨#[]⟩⟩,none,0,0,_,_,rfl,isP_leaf _ _ _ _ (Nat.zero_le _) (Nat.zero_le _),?_,LexT.b_set6 HB3.out _ (Nat.le_refl _) _ _ _ _ _ _⟩
    exact (by rw [← HR.out]; exact .inr ⟨ts,o,hl,HEv.out,.inl ⟨x,ho,rfl,hq.symm,by rw [hq,if_neg hq0]⟩⟩)
  ·go_upto_region 8 with fail
   unfold S6 at HWS
   rw [HWS.out]
   obtain ⟨c3,f3⟩:=cells_of CS.out
   clear c2 f2 l2 HWS HCK
   go_wp2_with fail
   refine bodyPost_ret (v:=.tuple #[.agg #[.int .i64 0,.int .i64 0,.int .i64 0,.string ⟨#[]⟩,.string ⟨#[]⟩,.slice none 0 0],.int .i64 (atOf (s.size:Int) r),.int .i64 3]) (by simp [results,Tryz.results110,go_sem,c3]) rfl ⟨x0,⟨0,0,0,⟨#[]⟩,⟨#[]⟩⟩,none,0,0,_,_,rfl,isP_leaf _ _ _ _ (Nat.zero_le _) (Nat.zero_le _),?_,LexT.b_set6 HBS.out _ (Nat.le_refl _) _ _ _ _ _ _⟩
   exact (by rw [← HR.out]; exact .inr ⟨ts,o,hl,HEv.out,.inr ⟨r,hr,rfl,rfl,rfl⟩⟩)
 ·rw [hl] at ho ⊢
  have HB1:=Lib.hid hB1
  clear ho hb hb1 hB1 k1
  have e1:(e == 0)=false:=beq_eq_false_iff_ne.2 he
  dsimp only
  go_wp2_with fail
  refine bodyPost_ret (v:=.tuple #[.agg #[.int .i64 0,.int .i64 0,.int .i64 0,.string ⟨#[]⟩,.string ⟨#[]⟩,.slice none 0 0],.int .i64 (p:Int),.int .i64 e]) (by simp [results,Tryz.results110,go_sem,c1]) rfl ⟨x0,⟨0,0,0,⟨#[]⟩,⟨#[]⟩⟩,none,0,0,_,_,rfl,isP_leaf _ _ _ _ (Nat.zero_le _) (Nat.zero_le _),?_,LexT.b_set6 HB1.out _ (Nat.le_refl _) _ _ _ _ _ _⟩
  exact (by rw [← HR.out]; exact .inl ⟨p,e,hl,he,rfl,rfl,rfl⟩)
end PsE
namespace PrU
open Go.RowKit
open LexM ExM Kit ExL ExP PsM PsT NmC Ps PsR PsD PsE
set_option linter.unusedVariables false
def GoodN:Job->List Tk->List Ex->List Tk->Prop
 | .form _,ts,L,r => ∃ x,L=[x]/\x.nodes + r.length<=ts.length
 | .loop _ x,ts,L,r => ∃ y,L=[y]/\y.nodes + r.length<=x.nodes + ts.length
 | .list _ acc,ts,L,r => nodesL L + r.length<=nodesL acc + ts.length
theorem nodes_opN (op:Nat) (l:List Ex):(opN op l).nodes=1 + nodesL l:=nodes_mk _ _
theorem leaf_nodes {t:Tk} {x:Ex} (h:leafN t=some x):x.nodes=1:=by
 unfold leafN at h
 repeat' split at h
 all_goals first | (cases h; done) | (injection h with h; subst h; rw [nodes_mk,nodesL_nil])
theorem next_len {s:List UInt8} {r:List Tk} (h:isNext s r=true):r.length=1 + r.tail.length:=by
 cases r with
 | nil => simp [isNext] at h
 | cons t r => simp; omega
theorem run_nodes:∀ (f:Nat) (j:Job) (ts:List Tk) (L:List Ex) (r:List Tk),run f j ts=.ok L r->GoodN j ts L r
 | 0,j,ts,L,r,h => by simp [run] at h
 | f + 1,.form q,ts,L,r,h => by
  unfold run at h
  split at h
  ·cases ts with
   | nil => cases h
   | cons t r0 =>
    simp only at h
    split at h
    ·rename_i op hop
     cases hr:run f (.form 5) r0 with
     | bad _ => rw [hr] at h; cases h
     | tired => rw [hr] at h; cases h
     | ok L' r' =>
      rw [hr] at h
      simp only [wrap,Out.ok.injEq] at h
      obtain ⟨rfl,rfl⟩:=h
      obtain ⟨x,rfl,hx⟩:=run_nodes f (.form 5) _ _ _ hr
      exact ⟨_,rfl,by rw [nodes_opN,nodesL_cons,nodesL_nil,List.length_cons]; omega⟩
    ·split at h
     ·have hC:=run_nodes f (.list 1 []) _ _ _ h
      obtain ⟨y,hy⟩:=PsL.run_form_one.run_list_one f 1 [] r0 L r rfl h
      subst hy
      have hC:nodesL ([] ++ [y]) + r.length<=nodesL [] + r0.length:=hC
      rw [List.nil_append,nodesL_cons,nodesL_nil] at hC
      exact ⟨y,rfl,by rw [List.length_cons]; omega⟩
     ·split at h
      ·rename_i op hop
       split at h
       ·rename_i hnx
        have hn:=next_len hnx
        cases hr:run f (.list (arity op) []) r0.tail with
        | bad _ => rw [hr] at h; cases h
        | tired => rw [hr] at h; cases h
        | ok L' r' =>
         rw [hr] at h
         simp only [wrap,Out.ok.injEq] at h
         obtain ⟨rfl,rfl⟩:=h
         have hC:nodesL L' + r'.length<=nodesL [] + r0.tail.length:=run_nodes f (.list (arity op) []) _ _ _ hr
         rw [nodesL_nil] at hC
         exact ⟨_,rfl,by rw [nodes_opN,List.length_cons]; omega⟩
       ·cases h
      ·split at h
       ·rename_i x hx
        simp only [Out.ok.injEq] at h
        obtain ⟨rfl,rfl⟩:=h
        exact ⟨x,rfl,by rw [leaf_nodes hx,List.length_cons]; omega⟩
       ·cases h
  ·cases hr:run f (.form (q + 1)) ts with
   | bad _ => rw [hr] at h; cases h
   | tired => rw [hr] at h; cases h
   | ok L' r' =>
    rw [hr] at h
    obtain ⟨x,rfl,hx⟩:=run_nodes f (.form (q + 1)) _ _ _ hr
    simp only at h
    obtain ⟨y,rfl,hy⟩:=run_nodes f (.loop q x) _ _ _ h
    exact ⟨y,rfl,by omega⟩
 | f + 1,.loop q x,ts,L,r,h => by
  unfold run at h
  cases ts with
  | nil =>
   simp only [Out.ok.injEq] at h
   obtain ⟨rfl,rfl⟩:=h
   exact ⟨x,rfl,Nat.le_refl _⟩
  | cons t r0 =>
   simp only at h
   split at h
   ·simp only [Out.ok.injEq] at h
    obtain ⟨rfl,rfl⟩:=h
    exact ⟨x,rfl,Nat.le_refl _⟩
   ·rename_i op hop
    cases hr:run f (.form (q + 1)) r0 with
    | bad _ => rw [hr] at h; cases h
    | tired => rw [hr] at h; cases h
    | ok L' r' =>
     rw [hr] at h
     obtain ⟨y,rfl,hy⟩:=run_nodes f (.form (q + 1)) _ _ _ hr
     simp only at h
     have hn:(opN op [x,y]).nodes=1 + (x.nodes + y.nodes):=by rw [nodes_opN,nodesL_cons,nodesL_cons,nodesL_nil]; omega
     split at h
     ·simp only [Out.ok.injEq] at h
      obtain ⟨rfl,rfl⟩:=h
      exact ⟨_,rfl,by rw [hn,List.length_cons]; omega⟩
     ·obtain ⟨z,rfl,hz⟩:=run_nodes f (.loop q (opN op [x,y])) _ _ _ h
      exact ⟨z,rfl,by rw [List.length_cons]; omega⟩
 | f + 1,.list n acc,ts,L,r,h => by
  unfold run at h
  cases hr:run f (.form 0) ts with
  | bad _ => rw [hr] at h; cases h
  | tired => rw [hr] at h; cases h
  | ok L' r' =>
   rw [hr] at h
   obtain ⟨x,rfl,hx⟩:=run_nodes f (.form 0) _ _ _ hr
   simp only at h
   split at h
   ·split at h
    ·rename_i hnx
     have hn:=next_len hnx
     have hC:nodesL L + r.length<=nodesL (acc ++ [x]) + r'.tail.length:=run_nodes f (.list n (acc ++ [x])) _ _ _ h
     rw [nodesL_snoc] at hC
     show nodesL L + r.length<=nodesL acc + ts.length
     omega
    ·cases h
   ·split at h
    ·rename_i hnx
     have hn:=next_len hnx
     simp only [Out.ok.injEq] at h
     obtain ⟨rfl,rfl⟩:=h
     show nodesL (acc ++ [x]) + r'.tail.length<=nodesL acc + ts.length
     rw [nodesL_snoc]; omega
    ·cases h
theorem ev_nodes {ts r:List Tk} {x:Ex} (h:Ev (.form 0) ts (.ok [x] r)):x.nodes<=ts.length:=by
 obtain ⟨_,f,hf⟩:=h
 obtain ⟨y,e,hy⟩:=run_nodes f (.form 0) _ _ _ (hf f (Nat.le_refl _))
 injection e with e _; subst e; omega
theorem pr_unique {l:List UInt8} {x y:Ex} {a b p q:Int} (h1:PR l x a p) (h2:PR l y b q):x=y/\a=b/\p=q:=by
 rcases h1 with ⟨n,e,e1,e2,e3,e4,e5⟩ | ⟨ts,o,e1,e2,e3⟩ <;> rcases h2 with ⟨m,f,f1,f2,f3,f4,f5⟩ | ⟨us,u,f1,f2,f3⟩
 ·rw [e1] at f1
  simp only [Prod.mk.injEq,true_and] at f1
  obtain ⟨rfl,rfl⟩:=f1
  exact ⟨e3.trans f3.symm,e4.trans f4.symm,e5.trans f5.symm⟩
 ·rw [e1] at f1
  simp only [Prod.mk.injEq] at f1
  exact absurd f1.2.2 e2
 ·rw [e1] at f1
  simp only [Prod.mk.injEq] at f1
  exact absurd f1.2.2.symm f2
 ·rw [e1] at f1
  simp only [Prod.mk.injEq,and_true] at f1
  subst f1
  obtain rfl:=e2.unique f2
  rcases e3 with ⟨x',rfl,g1,g2,g3⟩ | ⟨r,g0,g1,g2,g3⟩ <;> rcases f3 with ⟨y',h0,h1,h2,h3⟩ | ⟨r',h0,h1,h2,h3⟩
  ·simp only [Out.ok.injEq,List.cons.injEq,and_true] at h0
   subst h0
   exact ⟨g3.trans h3.symm,g1.trans h1.symm,g2.trans h2.symm⟩
  ·exfalso
   rcases h0 with ⟨z,e,hne⟩ | e
   ·simp only [Out.ok.injEq] at e
    exact hne e.2.symm
   ·cases e
  ·exfalso
   rcases g0 with ⟨z,e,hne⟩ | e
   ·rw [h0] at e
    simp only [Out.ok.injEq] at e
    exact hne e.2.symm
   ·rw [h0] at e; cases e
  ·have hr:r=r':=by
    rcases g0 with ⟨z,rfl,_⟩ | rfl <;> rcases h0 with ⟨z',e,_⟩ | e
    ·simp only [Out.ok.injEq] at e; exact e.2
    ·cases e
    ·cases e
    ·simp only [Out.bad.injEq] at e; exact e
   subst hr
   exact ⟨g3.trans h3.symm,g1.trans h1.symm,g2.trans h2.symm⟩
theorem pr_nodes {l:List UInt8} {x:Ex} {a p:Int} (h:PR l x a p):x.nodes<=160:=by
 rcases h with ⟨n,e,e1,e2,e3,e4,e5⟩ | ⟨ts,o,e1,e2,e3⟩
 ·subst e3; decide
 ·have hts:ts.length<=160:=by
   rcases Lex.lex_cases l with ⟨us,h1,h2,h3⟩ | ⟨_,h⟩ | ⟨q,er,us,_,_,he,h,_⟩
   ·rw [h3] at e1
    simp only [Prod.mk.injEq,and_true] at e1
    subst e1
    exact Nat.le_trans (few l 0 us h2) h1
   ·rw [h] at e1
    simp only [Prod.mk.injEq] at e1
    exact absurd e1.2.2 (by decide)
   ·rw [h] at e1
    simp only [Prod.mk.injEq] at e1
    rcases he with rfl | rfl | rfl <;> exact absurd e1.2.2 (by decide)
  rcases e3 with ⟨y,rfl,g1,g2,g3⟩ | ⟨r,g0,g1,g2,g3⟩
  ·have:=ev_nodes e2
   rw [g3]
   split
   ·omega
   ·decide
  ·subst g3; decide
end PrU
namespace TxT
open Go.RowKit
open ValM LexM NumM ExM NmM ShowM PrM Ty Kit ExL ExP ExN ExC RawV Within RawL GenL FrmM FldP FldR FldC TyM PgM TxM TxR PsM PbP PsE PrU
set_option linter.unusedVariables false
open Classical in
noncomputable def pfR (l:List UInt8):Ex × Int:=if h:∃ r:Ex × Int × Int,PR l r.1 r.2.1 r.2.2 then (h.choose.1,h.choose.2.2) else (noX,3)
theorem pf_of {l:List UInt8} {x:Ex} {a er:Int} (h:PR l x a er):pfR l=(x,er):=by
 have hex:∃ r:Ex × Int × Int,PR l r.1 r.2.1 r.2.2:=⟨(x,a,er),h⟩
 unfold pfR
 rw [dif_pos hex]
 obtain ⟨h1,_,h3⟩:=pr_unique hex.choose_spec h
 rw [h1,h3]
theorem pf_fine {x:Ex} (h:x.checkE=0) (hl:(Ex.txt x).length<=160):pfR (Ex.txt x)=(x,0):=by
 obtain ⟨ts,h1,h2⟩:=read_txt (checkE_zero h).2.2 hl
 exact pf_of (a:=0) (.inr ⟨ts,_,h1,h2,.inl ⟨x,rfl,rfl,h.symm,by rw [if_pos h]⟩⟩)
theorem pf_long {l:List UInt8} (hl:160 < l.length):pfR l=(noX,1):=pf_of (a:=0) (.inl ⟨0,1,lexR_long hl,by decide,rfl,rfl,rfl⟩)
end TxT
end Go.Proofs.YtdefaeieiaegaaaGreatDoor
