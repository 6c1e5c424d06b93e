/- LexBytes: what these laws name of them. -/
import Derived.Test.YtjhhmdmmllblhaaGreatDoorChecked
import Derived.WalkKit
import Derived.WalkSpells
import Derived.ProofKit
import Derived.Lib.Hide
import Derived.WalkLawsBesides
import Derived.BigQuiet
import Derived.Deep.QuietTactic
import Derived.Outline
import Derived.Test.YtjhhmdmmllblhaaGreatDoorKt01
namespace Go.Proofs.YtjhhmdmmllblhaaGreatDoor
set_option linter.unusedVariables false
namespace LexB
open Go.RowKit
open LexM
set_option linter.unusedVariables false
theorem low_t {c:UInt8} (h1:(97:Int)<=c.toNat) (h2:(c.toNat:Int)<=122):lowB c=true:=by unfold lowB; simp; omega
theorem low_f {c:UInt8} (h:(c.toNat:Int) < 97 ∨ (122:Int) < c.toNat):lowB c=false:=by
 unfold lowB; rw [Bool.and_eq_false_iff]; simp; omega
theorem dig_t {c:UInt8} (h1:(48:Int)<=c.toNat) (h2:(c.toNat:Int)<=57):digB c=true:=by unfold digB; simp; omega
theorem dig_f {c:UInt8} (h:(c.toNat:Int) < 48 ∨ (57:Int) < c.toNat):digB c=false:=by
 unfold digB; rw [Bool.and_eq_false_iff]; simp; omega
theorem isLetter_any (c:UInt8) (w:World) :
  Calls Tryz.prog 78 #[.int .u8 (c.toNat:Int)] w fun e w' => e=.returned (.bool (lowB c))/\w=w':=by
 by_cases h1:(97:Int)<=c.toNat
 ·by_cases h2:(c.toNat:Int)<=122
  ·rw [low_t h1 h2]
   have d1:decide ((97:Int)<=c.toNat)=true:=decide_eq_true h1
   have d2:decide ((c.toNat:Int)<=122)=true:=decide_eq_true h2
   go_enter Tryz.func78,Tryz.ntmps78
   go_wp2
   go_ret
   exact ⟨rfl,rfl⟩
  ·rw [low_f (.inr (by omega))]
   have d1:decide ((97:Int)<=c.toNat)=true:=decide_eq_true h1
   have d2:decide ((c.toNat:Int)<=122)=false:=decide_eq_false h2
   go_enter Tryz.func78,Tryz.ntmps78
   go_wp2
   go_ret
   exact ⟨rfl,rfl⟩
 ·rw [low_f (.inl (by omega))]
  have d1:decide ((97:Int)<=c.toNat)=false:=decide_eq_false h1
  go_enter Tryz.func78,Tryz.ntmps78
  go_wp2
  go_ret
  exact ⟨rfl,rfl⟩
theorem isDigit_any (c:UInt8) (w:World) :
  Calls Tryz.prog 109 #[.int .u8 (c.toNat:Int)] w fun e w' => e=.returned (.bool (digB c))/\w=w':=by
 by_cases h1:(48:Int)<=c.toNat
 ·by_cases h2:(c.toNat:Int)<=57
  ·rw [dig_t h1 h2]
   have d1:decide ((48:Int)<=c.toNat)=true:=decide_eq_true h1
   have d2:decide ((c.toNat:Int)<=57)=true:=decide_eq_true h2
   go_enter Tryz.func109,Tryz.ntmps109
   go_wp2
   go_ret
   exact ⟨rfl,rfl⟩
  ·rw [dig_f (.inr (by omega))]
   have d1:decide ((48:Int)<=c.toNat)=true:=decide_eq_true h1
   have d2:decide ((c.toNat:Int)<=57)=false:=decide_eq_false h2
   go_enter Tryz.func109,Tryz.ntmps109
   go_wp2
   go_ret
   exact ⟨rfl,rfl⟩
 ·rw [dig_f (.inl (by omega))]
  have d1:decide ((48:Int)<=c.toNat)=false:=decide_eq_false h1
  go_enter Tryz.func109,Tryz.ntmps109
  go_wp2
  go_ret
  exact ⟨rfl,rfl⟩
theorem isAln_any (c:UInt8) (w:World) :
  Calls Tryz.prog 80 #[.int .u8 (c.toNat:Int)] w fun e w' => e=.returned (.bool (alnB c))/\w=w':=by
 have c1:=fun W => isLetter_any c W
 have c2:=fun W => isDigit_any c W
 have e:alnB c=(lowB c || digB c):=rfl
 rw [e]
 clear e
 obtain ⟨a,ha⟩:∃ a,lowB c=a:=⟨_,rfl⟩
 obtain ⟨b,hb⟩:∃ b,digB c=b:=⟨_,rfl⟩
 rw [ha] at c1 ⊢
 rw [hb] at c2 ⊢
 have C1:=Lib.hid c1
 have C2:=Lib.hid c2
 clear c1 c2 ha hb
 cases a
 all_goals
  go_enter Tryz.func80,Tryz.ntmps80
  go_wp2_with (first | (go_at_call 78; (with_reducible refine (C1.out _).mono ?_); rintro e w1 ⟨rfl,rfl⟩) | (go_at_call 109; (with_reducible refine (C2.out _).mono ?_); rintro e w1 ⟨rfl,rfl⟩))
  go_ret
  exact ⟨by simp,rfl⟩
theorem take_snoc (s:ByteArray) (k:Nat) (h:k < s.size):s.data.toList.take (k + 1)=s.data.toList.take k ++ [s[k]]:=by
 rw [List.take_succ_eq_append_getElem (by simpa using h)]; rfl
theorem drop_cons (s:ByteArray) (k:Nat) (h:k < s.size):s.data.toList.drop k=s[k] :: s.data.toList.drop (k + 1):=by
 rw [List.drop_eq_getElem_cons (by simpa using h)]; rfl
theorem len_size (s:ByteArray):s.data.toList.length=s.size:=rfl
def tw (p:UInt8->Bool) (s:ByteArray):Nat:=(s.data.toList.takeWhile p).length
theorem tw_stop (p:UInt8->Bool) (s:ByteArray) (k:Nat) (hk:k<=s.size) (h:(s.data.toList.take k).all p=true) (h2:∀ g:k < s.size,p s[k]=false):tw p s=k:=by
 unfold tw
 have e:s.data.toList=s.data.toList.take k ++ s.data.toList.drop k:=(List.take_append_drop k _).symm
 have e2:(s.data.toList.drop k).takeWhile p=[]:=by
  by_cases g:k < s.size
  ·rw [drop_cons s k g,List.takeWhile_cons,h2 g]; rfl
  ·rw [List.drop_eq_nil_of_le (by rw [len_size]; omega)]; rfl
 rw [e,List.takeWhile_append_of_pos (fun a ha => List.all_eq_true.1 h a ha),e2,List.append_nil,List.length_take,len_size]
 omega
theorem all_step (p:UInt8->Bool) (s:ByteArray) (k:Nat) (hk:k < s.size) (h:(s.data.toList.take k).all p=true) (h2:p s[k]=true):(s.data.toList.take (k + 1)).all p=true:=by
 rw [take_snoc s k hk,List.all_append,h]; simp [h2]
theorem leading_dig (s:ByteArray) (w:World) (hs:s.size<=9223372036854775807) :
  Calls Tryz.prog 79 #[.string s,.func (.func 109) #[] #[]] w fun e w' => e=.returned (.string (s.extract 0 (tw digB s)))/\w=w':=by
 go_enter Tryz.func79,Tryz.ntmps79
 go_wp2_with fail
 go_loop [5] (fun i => ∃ k:Nat,k<=s.size/\i=.int .i64 k/\(s.data.toList.take k).all digB=true) (fun i => s.size - (intOf i).toNat)
 case atStart => exact ⟨0,Nat.zero_le _,rfl,rfl⟩
 case round =>
  obtain ⟨k,hk,rfl,ha⟩:=hrel
  by_cases hlt:k < s.size
  ·have c1:=fun W => isDigit_any s[k] W
   obtain ⟨b,hb⟩:∃ b,digB s[k]=b:=⟨_,rfl⟩
   rw [hb] at c1
   have C1:=Lib.hid c1
   have HA:=Lib.hid ha
   have HB:=Lib.hid hb
   clear c1 ha hb
   cases b
   ·go_wp2_with (first | (go_at_call 109; (with_reducible refine (C1.out _).mono ?_); rintro e w1 ⟨rfl,rfl⟩))
    go_ret
    exact ⟨by rw [tw_stop digB s k (by omega) HA.out (fun _ => HB.out)]; rfl,rfl⟩
   ·go_wp2_with (first | (go_at_call 109; (with_reducible refine (C1.out _).mono ?_); rintro e w1 ⟨rfl,rfl⟩))
    go_round
    case rel => exact ⟨k + 1,by omega,by go_num,all_step digB s k hlt HA.out HB.out⟩
    case measure => simp [intOf]; omega
  ·have HA:=Lib.hid ha
   clear ha
   go_wp2_with fail
   go_ret
   exact ⟨by rw [tw_stop digB s k (by omega) HA.out (fun g => absurd g hlt)]; rfl,rfl⟩
theorem leading_aln (s:ByteArray) (w:World) (hs:s.size<=9223372036854775807) :
  Calls Tryz.prog 79 #[.string s,.func (.func 80) #[] #[]] w fun e w' => e=.returned (.string (s.extract 0 (tw alnB s)))/\w=w':=by
 go_enter Tryz.func79,Tryz.ntmps79
 go_wp2_with fail
 go_loop [5] (fun i => ∃ k:Nat,k<=s.size/\i=.int .i64 k/\(s.data.toList.take k).all alnB=true) (fun i => s.size - (intOf i).toNat)
 case atStart => exact ⟨0,Nat.zero_le _,rfl,rfl⟩
 case round =>
  obtain ⟨k,hk,rfl,ha⟩:=hrel
  by_cases hlt:k < s.size
  ·have c1:=fun W => isAln_any s[k] W
   obtain ⟨b,hb⟩:∃ b,alnB s[k]=b:=⟨_,rfl⟩
   rw [hb] at c1
   have C1:=Lib.hid c1
   have HA:=Lib.hid ha
   have HB:=Lib.hid hb
   clear c1 ha hb
   cases b
   ·go_wp2_with (first | (go_at_call 80; (with_reducible refine (C1.out _).mono ?_); rintro e w1 ⟨rfl,rfl⟩))
    go_ret
    exact ⟨by rw [tw_stop alnB s k (by omega) HA.out (fun _ => HB.out)]; rfl,rfl⟩
   ·go_wp2_with (first | (go_at_call 80; (with_reducible refine (C1.out _).mono ?_); rintro e w1 ⟨rfl,rfl⟩))
    go_round
    case rel => exact ⟨k + 1,by omega,by go_num,all_step alnB s k hlt HA.out HB.out⟩
    case measure => simp [intOf]; omega
  ·have HA:=Lib.hid ha
   clear ha
   go_wp2_with fail
   go_ret
   exact ⟨by rw [tw_stop alnB s k (by omega) HA.out (fun g => absurd g hlt)]; rfl,rfl⟩
theorem eqb_of (s:ByteArray) (l:List UInt8):(s.toList == l)=decide (s.data.toList=l):=by
 rw [ByteArray.toList_eq,Bool.eq_iff_iff]; simp
theorem bytes_of {s:ByteArray} {l:List UInt8} (h:s.data.toList=l):s=⟨l.toArray⟩:=by
 obtain ⟨⟨x⟩⟩:=s; cases h; rfl
theorem key_any (s:ByteArray) (w:World) :
  Calls Tryz.prog 81 #[.string s] w fun e w' => e=.returned (.bool (keyB s.data.toList))/\w=w':=by
 by_cases h0:s.data.toList=[97,110,100]
 ·rw [h0]
  obtain rfl:=bytes_of h0
  have e:keyB [97,110,100]=true:=by decide
  rw [e]
  go_enter Tryz.func81,Tryz.ntmps81
  go_wp2
  go_ret
  exact ⟨rfl,rfl⟩
 by_cases h1:s.data.toList=[111,114]
 ·rw [h1]
  obtain rfl:=bytes_of h1
  have e:keyB [111,114]=true:=by decide
  rw [e]
  go_enter Tryz.func81,Tryz.ntmps81
  go_wp2
  go_ret
  exact ⟨rfl,rfl⟩
 by_cases h2:s.data.toList=[110,111,116]
 ·rw [h2]
  obtain rfl:=bytes_of h2
  have e:keyB [110,111,116]=true:=by decide
  rw [e]
  go_enter Tryz.func81,Tryz.ntmps81
  go_wp2
  go_ret
  exact ⟨rfl,rfl⟩
 by_cases h3:s.data.toList=[116,114,117,101]
 ·rw [h3]
  obtain rfl:=bytes_of h3
  have e:keyB [116,114,117,101]=true:=by decide
  rw [e]
  go_enter Tryz.func81,Tryz.ntmps81
  go_wp2
  go_ret
  exact ⟨rfl,rfl⟩
 by_cases h4:s.data.toList=[102,97,108,115,101]
 ·rw [h4]
  obtain rfl:=bytes_of h4
  have e:keyB [102,97,108,115,101]=true:=by decide
  rw [e]
  go_enter Tryz.func81,Tryz.ntmps81
  go_wp2
  go_ret
  exact ⟨rfl,rfl⟩
 by_cases h5:s.data.toList=[105,102]
 ·rw [h5]
  obtain rfl:=bytes_of h5
  have e:keyB [105,102]=true:=by decide
  rw [e]
  go_enter Tryz.func81,Tryz.ntmps81
  go_wp2
  go_ret
  exact ⟨rfl,rfl⟩
 by_cases h6:s.data.toList=[108,101,110]
 ·rw [h6]
  obtain rfl:=bytes_of h6
  have e:keyB [108,101,110]=true:=by decide
  rw [e]
  go_enter Tryz.func81,Tryz.ntmps81
  go_wp2
  go_ret
  exact ⟨rfl,rfl⟩
 have e:keyB s.data.toList=false:=by unfold keyB; simp [h0,h1,h2,h3,h4,h5,h6]
 rw [e]
 have t0:(s.toList == [97,110,100])=false:=by rw [eqb_of]; exact decide_eq_false h0
 have t1:(s.toList == [111,114])=false:=by rw [eqb_of]; exact decide_eq_false h1
 have t2:(s.toList == [110,111,116])=false:=by rw [eqb_of]; exact decide_eq_false h2
 have t3:(s.toList == [116,114,117,101])=false:=by rw [eqb_of]; exact decide_eq_false h3
 have t4:(s.toList == [102,97,108,115,101])=false:=by rw [eqb_of]; exact decide_eq_false h4
 have t5:(s.toList == [105,102])=false:=by rw [eqb_of]; exact decide_eq_false h5
 have t6:(s.toList == [108,101,110])=false:=by rw [eqb_of]; exact decide_eq_false h6
 clear e h0 h1 h2 h3 h4 h5 h6
 go_enter Tryz.func81,Tryz.ntmps81
 go_wp2
 go_ret
 exact ⟨rfl,rfl⟩
def nameE (l:List UInt8):Int:=if l=[] ∨ 10 < l.length then 1 else if nameB l=true/\keyB l=false then 0 else 3
theorem empty_f (s:ByteArray) (h:0 < s.size):(!s.toList.isEmpty)=true/\s.toList.isEmpty=false/\s.data.toList ≠ []:=by
 have e:s.data.toList ≠ []:=fun e => by
  have:s.data.toList.length=0:=by rw [e]; rfl
  rw [len_size] at this; omega
 rw [ByteArray.toList_eq]
 cases hd:s.data.toList with
 | nil => exact absurd hd e
 | cons a r => simp
theorem head_of (s:ByteArray) (h:0 < s.size):∃ r,s.data.toList=s[0] :: r:=⟨_,by have:=drop_cons s 0 h; rwa [List.drop_zero] at this⟩
theorem tw_eq (s:ByteArray):(s.extract 0 (tw alnB s)).data.toList=s.data.toList.takeWhile alnB:=by
 have e:(s.extract 0 (tw alnB s)).data.toList=s.data.toList.take (tw alnB s):=by simp [ByteArray.data_extract]
 rw [e]
 unfold tw
 exact LexM.take_tw alnB _
set_option maxHeartbeats 1000000 in
theorem name_any (s:ByteArray) (w:World) (hs:s.size<=9223372036854775807) :
  Calls Tryz.prog 49 #[.string s] w fun e w' => e=.returned (.int .i64 (nameE s.data.toList))/\w=w':=by
 by_cases h0:s.size=0
 ·have e:s=⟨#[]⟩:=bytes_of (List.eq_nil_of_length_eq_zero h0)
  subst e
  go_enter Tryz.func49,Tryz.ntmps49
  go_wp2
  go_ret
  exact ⟨rfl,rfl⟩
 ·obtain ⟨n1,n2,n3⟩:=empty_f s (by omega)
  by_cases h10:10 < s.size
  ·have e:nameE s.data.toList=1:=by unfold nameE; rw [if_pos (.inr h10)]
   rw [e]
   clear e n3
   go_enter Tryz.func49,Tryz.ntmps49
   go_wp2
   go_ret
   exact ⟨rfl,rfl⟩
  ·have e:nameE s.data.toList=if nameB s.data.toList=true/\keyB s.data.toList=false then 0 else 3:=by
    unfold nameE; rw [if_neg]; rintro (g | g)
    ·exact n3 g
    ·rw [len_size] at g; omega
   rw [e]
   have hp:0 < s.size:=by omega
   have hpi:(0:Int) < s.size:=by omega
   have c1:=fun W => isLetter_any s[0] W
   have c2:=fun W => leading_aln s W hs
   have c3:=fun W => key_any s W
   obtain ⟨b1,hb1⟩:∃ b,lowB s[0]=b:=⟨_,rfl⟩
   obtain ⟨b3,hb3⟩:∃ b,keyB s.data.toList=b:=⟨_,rfl⟩
   obtain ⟨t,ht⟩:∃ t,s.extract 0 (tw alnB s)=t:=⟨_,rfl⟩
   obtain ⟨b2,hb2⟩:∃ b,(t.toList != s.toList)=b:=⟨_,rfl⟩
   have f2:nameB s.data.toList=(b1 && !b2):=by
    obtain ⟨r,hr⟩:=head_of s hp
    have g1:=tw_eq s
    rw [ht] at g1
    have g2:(t.data.toList=s.data.toList) ↔ s.data.toList.all alnB=true:=by rw [g1]; exact LexM.tw_id alnB _
    have g3:b2=!(s.data.toList.all alnB):=by
     rw [← hb2,ByteArray.toList_eq,ByteArray.toList_eq]; unfold bne; congr 1
     rw [Bool.eq_iff_iff,← g2]; simp
    rw [g3,Bool.not_not,Bool.eq_iff_iff,hr]
    unfold nameB
    rw [← hb1]
    simp only [Bool.and_eq_true,List.all_cons]
    unfold alnB
    constructor
    ·rintro ⟨x,y⟩; exact ⟨x,by rw [x]; rfl,y⟩
    ·rintro ⟨x,_,y⟩; exact ⟨x,y⟩
   rw [hb1] at c1
   rw [hb3] at c3 ⊢
   rw [ht] at c2
   rw [f2]
   have k1:(t.toList == s.toList)=!b2:=by rw [← hb2]; unfold bne; rw [Bool.not_not]
   have C1:=Lib.hid c1
   have C2:=Lib.hid c2
   have C3:=Lib.hid c3
   clear c1 c2 c3 hb1 hb3 ht f2 e n3
   cases b1 <;> cases b2 <;> cases b3
   all_goals
    go_enter Tryz.func49,Tryz.ntmps49
    go_wp2_with (first | (go_at_call 78; (with_reducible refine (C1.out _).mono ?_); rintro e w1 ⟨rfl,rfl⟩) | (go_at_call 79; (with_reducible refine (C2.out _).mono ?_); rintro e w1 ⟨rfl,rfl⟩) | (go_at_call 81; (with_reducible refine (C3.out _).mono ?_); rintro e w1 ⟨rfl,rfl⟩))
    go_ret
    exact ⟨rfl,rfl⟩
end LexB
end Go.Proofs.YtjhhmdmmllblhaaGreatDoor
