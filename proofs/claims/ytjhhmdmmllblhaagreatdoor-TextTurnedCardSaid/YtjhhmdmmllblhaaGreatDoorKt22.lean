/- Parse PsLeaf LexSign Lex PsParse: what these laws name of them. -/
import Derived.Laws.Rows
import Derived.Test.YtjhhmdmmllblhaaGreatDoorKt21
namespace Go.Proofs.YtjhhmdmmllblhaaGreatDoor
set_option linter.unusedVariables false
namespace Parse
open Go.RowKit
open NumM ValM ShowM ParseM Kit Show
set_option linter.unusedVariables false
structure UInv (w:World) (s:ByteArray) (k:Nat) (acc:List UInt8) (wr:World):Prop where
 le:k<=s.size
 isB:Lib.IsBuilder 68 5 w.heap.size w.heap.size (Lib.byteCells acc) wr
 is:acc ++ unq (s.data.toList.drop k)=unq s.data.toList
 len:acc.length<=k
 below:Below w.heap.size w wr
theorem unquoted_any (s:ByteArray) (w:World) (hs:s.size<=140737488351232) :
  Calls Tryz.prog 208 #[.string s] w fun e w' => e=.returned (.string ⟨(unq s.data.toList).toArray⟩)/\Below w.heap.size w w':=by
 have h0:UInv w s 0 [] (w.alloc (.cells #[.pointer none,.slice none 0 0] 68)):=⟨Nat.zero_le _,Lib.fresh_isBuilder 68 5 w,rfl,Nat.le_refl _,b_new w _⟩
 have H0:=Lib.hid h0
 clear h0
 go_enter Tryz.func208,Tryz.ntmps208
 go_wp2_with fail
 go_loopw [4] (fun i wr => ∃ (k:Nat) (acc:List UInt8),i=.int .i64 k/\UInv w s k acc wr) (fun i _ => s.size - (intOf i).toNat)
 case atStart => exact ⟨0,[],rfl,H0.out⟩
 case round =>
  obtain ⟨k,acc,rfl,hI⟩:=hrel
  have hle:=hI.le
  have hsz:=hI.below.size
  have hal:=hI.len
  have hcl:(Lib.byteCells acc).length<=k:=by rw [Lib.byteCells_length]; exact hal
  have HI:=Lib.hid hI
  clear hI
  by_cases hlt:k < s.size
  ·by_cases h34:s[k]=34
   ·have t1:((s[k].toNat:Int) != 34)=false:=by rw [h34]; rfl
    have e:acc=unq s.data.toList:=by have:=HI.out.is; rw [unq_quote s k hlt h34,List.append_nil] at this; exact this
    have HE:=Lib.hid e
    clear e h34
    go_wp2_with fail
    refine (Bld.string w.heap.size w.heap.size _ _ HI.out.isB hsz).mono ?_; rintro e1 w3 ⟨rfl,hb3⟩
    go_wp2_with fail
    go_ret
    exact ⟨by rw [HE.out]; rfl,HI.out.below.trans hb3⟩
   ·have t1:((s[k].toNat:Int) != 34)=true:=by
     rw [bne_iff_ne]; intro g; exact h34 ((byte_eq s[k] 34 (by decide)).2 (by omega))
    by_cases h92:s[k]=92
    ·have t2:((s[k].toNat:Int) == 92)=true:=by rw [h92]; rfl
     by_cases hl2:k + 1 < s.size
     ·have hS:=unq_step2 s k hl2 h92
      have HS:=Lib.hid hS
      clear hS h92 h34
      go_wp2_with fail
      refine (Bld.writeByte w.heap.size w.heap.size _ _ _ HI.out.isB (by omega) hsz).mono ?_; rintro e w3 ⟨rfl,hB3,hb3⟩
      have hN:UInv w s (k + 2) (acc ++ [s[k + 1]]) w3:=⟨by omega,by rw [← cells_snoc]; exact hB3,by
       rw [← HI.out.is,HS.out]; simp,by simp; omega,HI.out.below.trans hb3⟩
      have HN:=Lib.hid hN
      clear hN hB3 hb3
      go_wp2
      go_roundw
      case rel => exact ⟨k + 2,_,by go_num,HN.out⟩
      case measure => simp [intOf]; omega
     ·have hS:=unq_step1 s k hlt h34 (fun h => hl2 h.2)
      have HS:=Lib.hid hS
      clear hS h92 h34
      go_wp2_with fail
      refine (Bld.writeByte w.heap.size w.heap.size _ _ _ HI.out.isB (by omega) hsz).mono ?_; rintro e w3 ⟨rfl,hB3,hb3⟩
      have hN:UInv w s (k + 1) (acc ++ [s[k]]) w3:=⟨by omega,by rw [← cells_snoc]; exact hB3,by
       rw [← HI.out.is,HS.out]; simp,by simp; omega,HI.out.below.trans hb3⟩
      have HN:=Lib.hid hN
      clear hN hB3 hb3
      go_wp2
      go_roundw
      case rel => exact ⟨k + 1,_,by go_num,HN.out⟩
      case measure => simp [intOf]; omega
    ·have t2:((s[k].toNat:Int) == 92)=false:=by
      rw [beq_eq_false_iff_ne]; intro g; exact h92 ((byte_eq s[k] 92 (by decide)).2 (by omega))
     have hS:=unq_step1 s k hlt h34 (fun h => h92 h.1)
     have HS:=Lib.hid hS
     clear hS h92 h34
     go_wp2_with fail
     refine (Bld.writeByte w.heap.size w.heap.size _ _ _ HI.out.isB (by omega) hsz).mono ?_; rintro e w3 ⟨rfl,hB3,hb3⟩
     have hN:UInv w s (k + 1) (acc ++ [s[k]]) w3:=⟨by omega,by rw [← cells_snoc]; exact hB3,by
      rw [← HI.out.is,HS.out]; simp,by simp; omega,HI.out.below.trans hb3⟩
     have HN:=Lib.hid hN
     clear hN hB3 hb3
     go_wp2
     go_roundw
     case rel => exact ⟨k + 1,_,by go_num,HN.out⟩
     case measure => simp [intOf]; omega
  ·have e:acc=unq s.data.toList:=by have:=HI.out.is; rw [unq_stop s k (by omega),List.append_nil] at this; exact this
   have HE:=Lib.hid e
   clear e
   go_wp2_with fail
   refine (Bld.string w.heap.size w.heap.size _ _ HI.out.isB hsz).mono ?_; rintro e1 w3 ⟨rfl,hb3⟩
   go_wp2_with fail
   go_ret
   exact ⟨by rw [HE.out]; rfl,HI.out.below.trans hb3⟩
structure Vars (w:World):Prop where
 pow:Pow w
 syn : ∃ p, w.var? Tryz.prog "strconv.ErrSyntax" = some #[.iface 265 p]
 ran : ∃ p, w.var? Tryz.prog "strconv.ErrRange" = some #[.iface 265 p]
theorem var_below {w w':World} {n:String} {cs:Array Value} (h:w.var? Tryz.prog n=some cs) (hb:Below w.heap.size w w'):w'.var? Tryz.prog n=some cs:=by
 have hg:∃ g,Tryz.prog.globalNamed n=some g/\g < w.heap.size:=by
  unfold World.var? at h
  cases hg:Tryz.prog.globalNamed n with
  | none => simp [hg] at h
  | some g =>
   refine ⟨g,rfl,?_⟩
   rcases Nat.lt_or_ge g w.heap.size with hl | hl
   ·exact hl
   ·simp [hg,Array.getElem?_eq_none hl] at h
 obtain ⟨g,hg,hl⟩:=hg
 exact var?_below hb hg hl h
theorem Vars.below {w w':World} (h:Vars w) (hb:Below w.heap.size w w'):Vars w':=by
 obtain ⟨p,hp⟩:=h.syn
 obtain ⟨q,hq⟩:=h.ran
 exact ⟨h.pow.below hb,⟨p,var_below hp hb⟩,⟨q,var_below hq hb⟩⟩
theorem numbered_ok (k n:Int) (s:ByteArray) (w:World) (hs:s.size<=140737488351232) (h:Lib.atoiAll s.data.toList=.ok n) :
  Calls Tryz.prog 209 #[.int .i64 k,.string s] w fun e w' => e=.returned (.tuple #[.agg #[.int .i64 k,.int .i64 n,.string ⟨#[]⟩],.int .i64 0])/\Below w.heap.size w w':=by
 have hc:∀ W:World,Calls Tryz.prog 157 #[.string s] W fun e w' => e=.returned (.tuple #[.int .i64 n,.nilIface])/\Below W.heap.size W w':=fun W =>
  (Tryz.strconv_Atoi_ok s (by omega) n h W).mono fun e w' hh => ⟨hh.1,by
   rcases hh.2 with rfl | ⟨t,rfl⟩
   ·exact Below.refl _ _
   ·exact Lib.bytesWorld_below _ _ _⟩
 have HC:=Lib.hid hc
 clear hc h
 go_enter Tryz.func209,Tryz.ntmps209
 go_wp2_with fail
 refine (HC.out _).mono ?_; rintro e w1 ⟨rfl,hb1⟩
 obtain ⟨c1,d1⟩:=bcell hb1
 have hz:w.heap.size < w1.heap.size:=Nat.lt_of_lt_of_le (by simp) hb1.size
 go_wp2_with fail
 refine bodyPost_ret (v:=.tuple #[.agg #[.int .i64 k,.int .i64 n,.string ⟨#[]⟩],.int .i64 0]) (by simp [results,Tryz.results209,go_sem,c1]) rfl ⟨rfl,?_⟩
 exact (((b_then hb1).setCell (by simp) _).setCell (by simp) _).setCell (by simp) _
theorem end_cases (e:Lib.NumEnd Int):(∃ n,e=.ok n) ∨ e=Lib.NumEnd.syntax ∨ e=Lib.NumEnd.range:=by cases e <;> simp
theorem numbered_no (k:Int) (s:ByteArray) (w:World) (hs:s.size<=140737488351232) (h:∀ n,Lib.atoiAll s.data.toList ≠ .ok n) (hv:Vars w) :
  Calls Tryz.prog 209 #[.int .i64 k,.string s] w fun e w' => e=.returned (.tuple #[.agg #[.int .i64 0,.int .i64 0,.string ⟨#[]⟩],.int .i64 3])/\Below w.heap.size w w':=by
 obtain ⟨p,hp⟩:=(hv.below (b_new w (.cells #[.int .i64 0,.int .i64 0,.string ⟨#[]⟩] 42))).syn
 obtain ⟨q,hq⟩:=(hv.below (b_new w (.cells #[.int .i64 0,.int .i64 0,.string ⟨#[]⟩] 42))).ran
 have hc:Calls Tryz.prog 157 #[.string s] (w.alloc (.cells #[.int .i64 0,.int .i64 0,.string ⟨#[]⟩] 42)) fun e w' => ∃ (m:Int) (N:Nat),e=.returned (.tuple #[.int .i64 m,.iface 248 (.pointer (some ⟨N,0,none⟩))])/\Below (w.alloc (.cells #[.int .i64 0,.int .i64 0,.string ⟨#[]⟩] 42)).heap.size (w.alloc (.cells #[.int .i64 0,.int .i64 0,.string ⟨#[]⟩] 42)) w':=by
  rcases end_cases (Lib.atoiAll s.data.toList) with ⟨n,ha⟩ | ha | ha
  ·exact absurd ha (h n)
  ·refine (Tryz.strconv_Atoi_syntax_var s (by omega) ha _ p _ hp).mono ?_
   rintro e w' ⟨N,h1,_,_,h2⟩
   exact ⟨0,N,h1,h2⟩
  ·refine (Tryz.strconv_Atoi_range_var s (by omega) ha _ q _ hq).mono ?_
   rintro e w' ⟨N,h1,_,_,h2⟩
   exact ⟨_,N,h1,h2⟩
 have HC:=Lib.hid hc
 clear hc h hp hq hv
 go_enter Tryz.func209,Tryz.ntmps209
 go_wp2_with fail
 refine HC.out.mono ?_; rintro e w1 ⟨m,N,rfl,hb1⟩
 obtain ⟨c1,d1⟩:=bcell hb1
 have hz:w.heap.size < w1.heap.size:=Nat.lt_of_lt_of_le (by simp) hb1.size
 go_wp2_with fail
 refine bodyPost_ret (v:=.tuple #[.agg #[.int .i64 0,.int .i64 0,.string ⟨#[]⟩],.int .i64 3]) (by simp [results,Tryz.results209,go_sem,c1]) rfl ⟨rfl,?_⟩
 exact (((b_then hb1).setCell (by simp) _).setCell (by simp) _).setCell (by simp) _
theorem bytes_of {s:ByteArray} {l:List UInt8} (h:s.data.toList=l):s=⟨l.toArray⟩:=WideShapes.bytes_inj (by rw [h])
theorem eqb_of (s:ByteArray) (l:List UInt8):(s.toList == l)=decide (s.data.toList=l):=by
 rw [ByteArray.toList_eq,Bool.eq_iff_iff]; simp
theorem pre_of (s:ByteArray) (c:UInt8):Lib.hasPrefix s.data.toList [c]=decide (s.data.toList.head?=some c):=by
 cases h:s.data.toList with
 | nil => simp [Lib.hasPrefix]
 | cons d r =>
  by_cases e:c=d
  ·subst e; simp [Lib.hasPrefix]
  ·have e2:(some d:Option UInt8) ≠ some c:=fun g => e (Option.some.inj g).symm
   rw [List.head?_cons,decide_eq_false e2]
   show (c == d && List.isPrefixOf [] r)=false
   rw [beq_eq_false_iff_ne.2 e]; rfl
theorem tail_of (s:ByteArray):(s.extract 1 s.size).data.toList=s.data.toList.tail:=by
 rw [Lib.extract_data,List.drop_one,List.take_of_length_le]
 rw [List.length_tail,len_size]
 omega
theorem head_pos {s:ByteArray} {c:UInt8} (h:s.data.toList.head?=some c):1<=s.size:=by
 cases hd:s.data.toList with
 | nil => rw [hd] at h; simp at h
 | cons a r => rw [← len_size,hd]; simp
theorem pre_any (s p:ByteArray) (w:World):Calls Tryz.prog 159 #[.string s,.string p] w fun e w' => e=.returned (.bool (Lib.hasPrefix s.data.toList p.data.toList))/\w=w' :=
 (Tryz.strings_HasPrefix s p w).mono fun _ _ h => ⟨h.1,h.2.symm⟩
theorem cand_word (s:ByteArray) (w:World) (h:s.data.toList=trueL ∨ s.data.toList=falseL ∨ s.data.toList=[63]) :
  ∃ k n,candF s.data.toList=some (k,n,[])/\Calls Tryz.prog 207 #[.string s] w fun e w' => e=.returned (.tuple #[.agg #[.int .i64 k,.int .i64 n,.string ⟨#[]⟩],.int .i64 0])/\Below w.heap.size w w':=by
 rcases h with h | h | h
 ·rw [h]
  obtain rfl:=bytes_of h
  refine ⟨2,1,rfl,?_⟩
  unfold trueL
  go_enter Tryz.func207,Tryz.ntmps207
  go_wp2_with fail
  refine bodyPost_ret (v:=.tuple #[.agg #[.int .i64 2,.int .i64 1,.string ⟨#[]⟩],.int .i64 0]) (by simp [results,Tryz.results207,go_sem]) rfl ⟨rfl,b_new _ _⟩
 ·rw [h]
  obtain rfl:=bytes_of h
  refine ⟨2,0,rfl,?_⟩
  unfold falseL
  go_enter Tryz.func207,Tryz.ntmps207
  go_wp2_with fail
  refine bodyPost_ret (v:=.tuple #[.agg #[.int .i64 2,.int .i64 0,.string ⟨#[]⟩],.int .i64 0]) (by simp [results,Tryz.results207,go_sem]) rfl ⟨rfl,b_new _ _⟩
 ·rw [h]
  obtain rfl:=bytes_of h
  refine ⟨4,0,rfl,?_⟩
  go_enter Tryz.func207,Tryz.ntmps207
  go_wp2_with fail
  refine bodyPost_ret (v:=.tuple #[.agg #[.int .i64 4,.int .i64 0,.string ⟨#[]⟩],.int .i64 0]) (by simp [results,Tryz.results207,go_sem]) rfl ⟨rfl,b_new _ _⟩
theorem cand_quote (s:ByteArray) (w:World) (hs:s.size<=140737488351232) (h1:s.data.toList ≠ trueL) (h2:s.data.toList ≠ falseL) (h3:s.data.toList ≠ [63]) (h4:s.data.toList.head?=some 34) :
  Calls Tryz.prog 207 #[.string s] w fun e w' => e=.returned (.tuple #[.agg #[.int .i64 3,.int .i64 0,.string ⟨(unq s.data.toList.tail).toArray⟩],.int .i64 0])/\Below w.heap.size w w':=by
 have t1:(s.toList == trueL)=false:=by rw [eqb_of]; exact decide_eq_false h1
 have t2:(s.toList == falseL)=false:=by rw [eqb_of]; exact decide_eq_false h2
 have t3:(s.toList == [63])=false:=by rw [eqb_of]; exact decide_eq_false h3
 unfold trueL at t1
 unfold falseL at t2
 have c1:=fun W => pre_any s ⟨#[34]⟩ W
 have e1:Lib.hasPrefix s.data.toList (ByteArray.mk #[34]).data.toList=true:=by
  show Lib.hasPrefix s.data.toList [34]=true
  rw [pre_of,h4]; rfl
 rw [e1] at c1
 have C1:=Lib.hid c1
 have hpos:=head_pos h4
 have c2:=fun W => unquoted_any (s.extract 1 s.size) W (by simp; omega)
 rw [tail_of] at c2
 obtain ⟨t,ht⟩:∃ t,ByteArray.mk (unq s.data.toList.tail).toArray=t:=⟨_,rfl⟩
 rw [ht] at c2 ⊢
 have C2:=Lib.hid c2
 clear c1 e1 h1 h2 h3 h4 c2 ht
 go_enter Tryz.func207,Tryz.ntmps207
 go_wp2_with fail
 refine (C1.out _).mono ?_; rintro e w1 ⟨rfl,rfl⟩
 go_wp2_with fail
 refine (C2.out _).mono ?_; rintro e w1 ⟨rfl,hb1⟩
 obtain ⟨c1,d1⟩:=bcell hb1
 have hz:w.heap.size < w1.heap.size:=Nat.lt_of_lt_of_le (by simp) hb1.size
 go_wp2_with fail
 refine bodyPost_ret (v:=.tuple #[.agg #[.int .i64 3,.int .i64 0,.string t],.int .i64 0]) (by simp [results,Tryz.results207,go_sem,c1]) rfl ⟨rfl,?_⟩
 exact (((b_then hb1).setCell (by simp) _).setCell (by simp) _).setCell (by simp) _
theorem numbered_any (k:Int) (s:ByteArray) (hs:s.size<=140737488351232):∃ j z m:Int,((m=3/\j=0/\z=0/\numF k s.data.toList=none) ∨ (m=0/\j=k/\numF k s.data.toList=some (k,z,[]))) ∧
  ∀ w:World,Vars w->Calls Tryz.prog 209 #[.int .i64 k,.string s] w fun e w' => e=.returned (.tuple #[.agg #[.int .i64 j,.int .i64 z,.string ⟨#[]⟩],.int .i64 m])/\Below w.heap.size w w':=by
 rcases end_cases (Lib.atoiAll s.data.toList) with ⟨n,ha⟩ | ha | ha
 ·exact ⟨k,n,0,.inr ⟨rfl,rfl,by unfold numF; rw [ha]⟩,fun w _ => numbered_ok k n s w hs ha⟩
 ·exact ⟨0,0,3,.inl ⟨rfl,rfl,rfl,by unfold numF; rw [ha]⟩,fun w hv => numbered_no k s w hs (fun n h => by rw [ha] at h; cases h) hv⟩
 ·exact ⟨0,0,3,.inl ⟨rfl,rfl,rfl,by unfold numF; rw [ha]⟩,fun w hv => numbered_no k s w hs (fun n h => by rw [ha] at h; cases h) hv⟩
theorem cand_number (s:ByteArray) (hs:s.size<=140737488351232) (h1:s.data.toList ≠ trueL) (h2:s.data.toList ≠ falseL) (h3:s.data.toList ≠ [63]) (h4:s.data.toList.head? ≠ some 34) :
  ∃ j z m:Int,((m=3/\j=0/\z=0/\candF s.data.toList=none) ∨ (m=0/\candF s.data.toList=some (j,z,[]))) ∧
  ∀ w:World,Vars w->Calls Tryz.prog 207 #[.string s] w fun e w' => e=.returned (.tuple #[.agg #[.int .i64 j,.int .i64 z,.string ⟨#[]⟩],.int .i64 m])/\Below w.heap.size w w':=by
 have ec:candF s.data.toList=if s.data.toList.head?=some 33 then numF 5 s.data.toList.tail else numF 1 s.data.toList:=by
  unfold candF; rw [if_neg h1,if_neg h2,if_neg h3,if_neg h4]
 have t1:(s.toList == trueL)=false:=by rw [eqb_of]; exact decide_eq_false h1
 have t2:(s.toList == falseL)=false:=by rw [eqb_of]; exact decide_eq_false h2
 have t3:(s.toList == [63])=false:=by rw [eqb_of]; exact decide_eq_false h3
 unfold trueL at t1
 unfold falseL at t2
 have c1:=fun W => pre_any s ⟨#[34]⟩ W
 have e1:Lib.hasPrefix s.data.toList (ByteArray.mk #[34]).data.toList=false:=by
  show Lib.hasPrefix s.data.toList [34]=false
  rw [pre_of]; exact decide_eq_false h4
 rw [e1] at c1
 have C1:=Lib.hid c1
 have c3:=fun W => pre_any s ⟨#[33]⟩ W
 by_cases h5:s.data.toList.head?=some 33
 ·have e3:Lib.hasPrefix s.data.toList (ByteArray.mk #[33]).data.toList=true:=by
   show Lib.hasPrefix s.data.toList [33]=true
   rw [pre_of,h5]; rfl
  rw [e3] at c3
  have C3:=Lib.hid c3
  have hpos:=head_pos h5
  rw [if_pos h5] at ec
  obtain ⟨j,z,m,hjz,hn⟩:=numbered_any 5 (s.extract 1 s.size) (by simp; omega)
  rw [tail_of] at hjz
  refine ⟨j,z,m,?_,fun w hv => ?_⟩
  ·rw [ec]
   rcases hjz with ⟨a,b,c,d⟩ | ⟨a,b,c⟩
   ·exact .inl ⟨a,b,c,d⟩
   ·subst b; exact .inr ⟨a,c⟩
  have HN:=Lib.hid hn
  have HV:=Lib.hid hv
  clear c1 e1 h1 h2 h3 h4 c3 e3 hn hv hjz ec h5
  go_enter Tryz.func207,Tryz.ntmps207
  go_wp2_with fail
  refine (C1.out _).mono ?_; rintro e w1 ⟨rfl,rfl⟩
  go_wp2_with fail
  refine (C3.out _).mono ?_; rintro e w1 ⟨rfl,rfl⟩
  go_wp2_with fail
  refine (HN.out _ (HV.out.below (b_new w _))).mono ?_; rintro e w1 ⟨rfl,hb1⟩
  obtain ⟨c1,d1⟩:=bcell hb1
  have hz:w.heap.size < w1.heap.size:=Nat.lt_of_lt_of_le (by simp) hb1.size
  go_wp2_with fail
  refine bodyPost_ret (v:=.tuple #[.agg #[.int .i64 j,.int .i64 z,.string ⟨#[]⟩],.int .i64 m]) (by simp [results,Tryz.results207,go_sem,c1]) rfl ⟨rfl,?_⟩
  exact (((b_then hb1).setCell (by simp) _).setCell (by simp) _).setCell (by simp) _
 ·have e3:Lib.hasPrefix s.data.toList (ByteArray.mk #[33]).data.toList=false:=by
   show Lib.hasPrefix s.data.toList [33]=false
   rw [pre_of]; exact decide_eq_false h5
  rw [e3] at c3
  have C3:=Lib.hid c3
  rw [if_neg h5] at ec
  obtain ⟨j,z,m,hjz,hn⟩:=numbered_any 1 s hs
  refine ⟨j,z,m,?_,fun w hv => ?_⟩
  ·rw [ec]
   rcases hjz with ⟨a,b,c,d⟩ | ⟨a,b,c⟩
   ·exact .inl ⟨a,b,c,d⟩
   ·subst b; exact .inr ⟨a,c⟩
  have HN:=Lib.hid hn
  have HV:=Lib.hid hv
  clear c1 e1 h1 h2 h3 h4 c3 e3 hn hv hjz ec h5
  go_enter Tryz.func207,Tryz.ntmps207
  go_wp2_with fail
  refine (C1.out _).mono ?_; rintro e w1 ⟨rfl,rfl⟩
  go_wp2_with fail
  refine (C3.out _).mono ?_; rintro e w1 ⟨rfl,rfl⟩
  go_wp2_with fail
  refine (HN.out _ (HV.out.below (b_new w _))).mono ?_; rintro e w1 ⟨rfl,hb1⟩
  obtain ⟨c1,d1⟩:=bcell hb1
  have hz:w.heap.size < w1.heap.size:=Nat.lt_of_lt_of_le (by simp) hb1.size
  go_wp2_with fail
  refine bodyPost_ret (v:=.tuple #[.agg #[.int .i64 j,.int .i64 z,.string ⟨#[]⟩],.int .i64 m]) (by simp [results,Tryz.results207,go_sem,c1]) rfl ⟨rfl,?_⟩
  exact (((b_then hb1).setCell (by simp) _).setCell (by simp) _).setCell (by simp) _
theorem cand_any (s:ByteArray) (hs:s.size<=140737488351232) :
  ∃ (j z m:Int) (t:ByteArray),((m=3/\candF s.data.toList=none) ∨ (m=0/\candF s.data.toList=some (j,z,t.data.toList))) ∧
  ∀ w:World,Vars w->Calls Tryz.prog 207 #[.string s] w fun e w' => e=.returned (.tuple #[.agg #[.int .i64 j,.int .i64 z,.string t],.int .i64 m])/\Below w.heap.size w w':=by
 by_cases h:s.data.toList=trueL ∨ s.data.toList=falseL ∨ s.data.toList=[63]
 ·have w0:World:=default
  obtain ⟨k,n,hc,_⟩:=cand_word s w0 h
  refine ⟨k,n,0,⟨#[]⟩,.inr ⟨rfl,hc⟩,fun w _ => ?_⟩
  obtain ⟨k',n',hc',h'⟩:=cand_word s w h
  rw [hc] at hc'
  simp only [Option.some.injEq,Prod.mk.injEq,and_true] at hc'
  obtain ⟨rfl,rfl⟩:=hc'
  exact h'
 ·have h1:s.data.toList ≠ trueL:=fun g => h (.inl g)
  have h2:s.data.toList ≠ falseL:=fun g => h (.inr (.inl g))
  have h3:s.data.toList ≠ [63]:=fun g => h (.inr (.inr g))
  by_cases h4:s.data.toList.head?=some 34
  ·exact ⟨3,0,0,⟨(unq s.data.toList.tail).toArray⟩,.inr ⟨rfl,by unfold candF; rw [if_neg h1,if_neg h2,if_neg h3,if_pos h4]⟩,fun w _ => cand_quote s w hs h1 h2 h3 h4⟩
  ·obtain ⟨j,z,m,hjz,hn⟩:=cand_number s hs h1 h2 h3 h4
   refine ⟨j,z,m,⟨#[]⟩,?_,hn⟩
   rcases hjz with ⟨a,_,_,d⟩ | ⟨a,c⟩
   ·exact .inl ⟨a,d⟩
   ·exact .inr ⟨a,c⟩
theorem parse_none (s:ByteArray) (w:World) (hc:∃ (j z:Int) (t:ByteArray),∀ w:World,Vars w->Calls Tryz.prog 207 #[.string s] w fun e w' => e=.returned (.tuple #[.agg #[.int .i64 j,.int .i64 z,.string t],.int .i64 3])/\Below w.heap.size w w') (hv:Vars w) :
  Calls Tryz.prog 204 #[.string s] w fun e w' => e=.returned (.tuple #[.agg #[.int .i64 0,.int .i64 0,.string ⟨#[]⟩],.int .i64 3])/\Below w.heap.size w w':=by
 obtain ⟨j,z,t,hc⟩:=hc
 have HC:=Lib.hid hc
 have HV:=Lib.hid hv
 clear hc hv
 go_enter Tryz.func204,Tryz.ntmps204
 go_wp2_with fail
 refine (HC.out _ (HV.out.below (b_new w _))).mono ?_; rintro e w1 ⟨rfl,hb1⟩
 obtain ⟨c1,d1⟩:=bcell hb1
 have hz:w.heap.size < w1.heap.size:=Nat.lt_of_lt_of_le (by simp) hb1.size
 go_wp2_with fail
 refine bodyPost_ret (v:=.tuple #[.agg #[.int .i64 0,.int .i64 0,.string ⟨#[]⟩],.int .i64 3]) (by simp [results,Tryz.results204,go_sem,c1,hz]) rfl ⟨rfl,?_⟩
 exact b_more (b_set3 (b_then hb1) _ (Nat.le_refl _) _ _ _) _
theorem parse_bad (s t:ByteArray) (j z:Int) (w:World) (hc:∀ w:World,Vars w->Calls Tryz.prog 207 #[.string s] w fun e w' => e=.returned (.tuple #[.agg #[.int .i64 j,.int .i64 z,.string t],.int .i64 0])/\Below w.heap.size w w')
  (hv:Vars w) (h:¬ (valE j z t.data.toList=0/\showL j z t.data.toList=s.data.toList)) :
  Calls Tryz.prog 204 #[.string s] w fun e w' => e=.returned (.tuple #[.agg #[.int .i64 0,.int .i64 0,.string ⟨#[]⟩],.int .i64 3])/\Below w.heap.size w w':=by
 obtain ⟨u,q,hs,hd⟩:∃ (u:ByteArray) (q:Int),(∀ W:World,Pow W->Calls Tryz.prog 88 #[.agg #[.int .i64 j,.int .i64 z,.string t]] W fun e w' => e=.returned (.tuple #[.string u,.int .i64 q])/\Below W.heap.size W w')/\(q ≠ 0 ∨ (q=0/\u.data.toList ≠ s.data.toList)):=by
  by_cases g:valE j z t.data.toList=0
  ·refine ⟨_,0,fun W hp => show_good _ _ _ W g hp,.inr ⟨rfl,fun e => h ⟨g,?_⟩⟩⟩
   exact e
  ·exact ⟨_,_,fun W _ => show_bad _ _ _ W g,.inl g⟩
 have HC:=Lib.hid hc
 have HV:=Lib.hid hv
 have HS:=Lib.hid hs
 have hd':(q != 0)=true ∨ ((q != 0)=false/\(u.toList == s.toList)=false/\(u.toList != s.toList)=true):=by
  rcases hd with g | ⟨rfl,g⟩
  ·exact .inl (bne_iff_ne.2 g)
  ·have g2:(u.toList == s.toList)=false:=by rw [ByteArray.toList_eq,ByteArray.toList_eq]; exact beq_eq_false_iff_ne.2 g
   exact .inr ⟨by simp,g2,by unfold bne; rw [g2]; rfl⟩
 clear hc hv hs h hd
 rcases hd' with hq0 | ⟨hq0,hu,hu'⟩
 all_goals
  go_enter Tryz.func204,Tryz.ntmps204
  go_wp2_with fail
  refine (HC.out _ (HV.out.below (b_new w _))).mono ?_; rintro e w1 ⟨rfl,hb1⟩
  have V1:=Lib.hid (HV.out.below (b_then hb1))
  obtain ⟨c1,d1⟩:=bcell hb1
  have hz:w.heap.size < w1.heap.size:=Nat.lt_of_lt_of_le (by simp) hb1.size
  have hz1:=Nat.lt_succ_of_lt hz
  go_wp2_with fail
  refine (HS.out _ (V1.out.below (b_new w1 _)).pow).mono ?_; rintro e w2 ⟨rfl,hb2⟩
  obtain ⟨c2,d2⟩:=bcell hb2
  have hz2:w.heap.size < w2.heap.size:=Nat.lt_of_lt_of_le (by simp; omega) hb2.size
  go_wp2_with fail
  refine bodyPost_ret (v:=.tuple #[.agg #[.int .i64 0,.int .i64 0,.string ⟨#[]⟩],.int .i64 3]) (by simp [results,Tryz.results204,go_sem,c1,c2,hz,hz1]) rfl ⟨rfl,?_⟩
  exact b_set3 (b_trans (b_then hb1) (b_then hb2)) _ (Nat.le_refl _) _ _ _
theorem parse_good (s t:ByteArray) (j z:Int) (w:World) (hc:∀ w:World,Vars w->Calls Tryz.prog 207 #[.string s] w fun e w' => e=.returned (.tuple #[.agg #[.int .i64 j,.int .i64 z,.string t],.int .i64 0])/\Below w.heap.size w w')
  (hv:Vars w) (h:valE j z t.data.toList=0) (hs:showL j z t.data.toList=s.data.toList) :
  Calls Tryz.prog 204 #[.string s] w fun e w' => e=.returned (.tuple #[.agg #[.int .i64 j,.int .i64 z,.string t],.int .i64 0])/\Below w.heap.size w w':=by
 have hsh:∀ W:World,Pow W->Calls Tryz.prog 88 #[.agg #[.int .i64 j,.int .i64 z,.string t]] W fun e w' => e=.returned (.tuple #[.string s,.int .i64 0])/\Below W.heap.size W w':=fun W hp => by
  have:=show_good j z t W h hp
  rw [hs] at this
  exact this
 have HC:=Lib.hid hc
 have HV:=Lib.hid hv
 have HS:=Lib.hid hsh
 clear hc hv hsh h hs
 go_enter Tryz.func204,Tryz.ntmps204
 go_wp2_with fail
 refine (HC.out _ (HV.out.below (b_new w _))).mono ?_; rintro e w1 ⟨rfl,hb1⟩
 have V1:=Lib.hid (HV.out.below (b_then hb1))
 obtain ⟨c1,d1⟩:=bcell hb1
 have hz:w.heap.size < w1.heap.size:=Nat.lt_of_lt_of_le (by simp) hb1.size
 have hz1:=Nat.lt_succ_of_lt hz
 go_wp2_with fail
 refine (HS.out _ (V1.out.below (b_new w1 _)).pow).mono ?_; rintro e w2 ⟨rfl,hb2⟩
 obtain ⟨c2,d2⟩:=bcell hb2
 have hz2:w.heap.size < w2.heap.size:=Nat.lt_of_lt_of_le (by simp; omega) hb2.size
 have hz3:w1.heap.size < w2.heap.size:=Nat.lt_of_lt_of_le (by simp) hb2.size
 go_wp2_with fail
 refine bodyPost_ret (v:=.tuple #[.agg #[.int .i64 j,.int .i64 z,.string t],.int .i64 0]) (by simp [results,Tryz.results204,go_sem,c1,c2,hz,hz1]) rfl ⟨rfl,?_⟩
 exact b_set3 (b_trans (b_then hb1) (b_then hb2)) _ (Nat.le_refl _) _ _ _
theorem parse_any (s:ByteArray) (hs:s.size<=140737488351232) :
  ∃ (j z m:Int) (t:ByteArray),((m=0/\valE j z t.data.toList=0/\showL j z t.data.toList=s.data.toList) ∨ (m=3/\j=0/\z=0/\t=⟨#[]⟩/\∀ k n l,valE k n l=0->showL k n l ≠ s.data.toList)) ∧
  ∀ w:World,Vars w->Calls Tryz.prog 204 #[.string s] w fun e w' => e=.returned (.tuple #[.agg #[.int .i64 j,.int .i64 z,.string t],.int .i64 m])/\Below w.heap.size w w':=by
 obtain ⟨j,z,m,t,hd,hc⟩:=cand_any s hs
 rcases hd with ⟨rfl,hn⟩ | ⟨rfl,hn⟩
 ·refine ⟨0,0,3,⟨#[]⟩,.inr ⟨rfl,rfl,rfl,rfl,fun k n l hv e => ?_⟩,fun w hv => parse_none s w ⟨j,z,t,hc⟩ hv⟩
  rw [← e,cand_show (val_ok hv).1 (val_ok hv).2] at hn
  cases hn
 ·by_cases g:valE j z t.data.toList=0/\showL j z t.data.toList=s.data.toList
  ·exact ⟨j,z,0,t,.inl ⟨rfl,g.1,g.2⟩,fun w hv => parse_good s t j z w hc hv g.1 g.2⟩
  ·refine ⟨0,0,3,⟨#[]⟩,.inr ⟨rfl,rfl,rfl,rfl,fun k n l hv e => ?_⟩,fun w hv => parse_bad s t j z w hc hv g⟩
   have hh:=cand_show (val_ok hv).1 (val_ok hv).2
   rw [e,hn] at hh
   simp only [Option.some.injEq,Prod.mk.injEq] at hh
   obtain ⟨rfl,rfl,rfl⟩:=hh
   exact g ⟨hv,e⟩
end Parse
namespace PsLf
open Go.RowKit
open LexM ExM Kit ExL ExP PsM PsT NmC Ps PsR PsLx LexB
set_option linter.unusedVariables false
set_option maxHeartbeats 2000000 in
theorem leaf_true (p vk nn:Int) (u t:ByteArray) (hu:(u.toList == [116,114,117,101])=true) (w:World)
  (hP:∀ W,Below w.heap.size w W->Calls Tryz.prog 204 #[.string u] W fun e w' => e=.returned (.tuple #[.agg #[.int .i64 2,.int .i64 1,.string ⟨#[]⟩],.int .i64 0])/\Below W.heap.size W w') :
  Calls Tryz.prog 197 #[.agg #[.int .i64 2,.int .i64 p,.string u,.int .i64 vk,.int .i64 nn,.string t]] w fun e w' => e=.returned (.tuple #[.agg #[.int .i64 1,.int .i64 2,.int .i64 1,.string ⟨#[]⟩,.string ⟨#[]⟩,.slice none 0 0],.bool true])/\Below w.heap.size w w':=by
 have HP:=Lib.hid hP
 clear hP
 go_enter Tryz.func197,Tryz.ntmps197
 go_wp2_with fail
 obtain ⟨W,hW⟩:∃ W,((w.alloc (.cells #[.int .i64 2,.int .i64 p,.string u,.int .i64 vk,.int .i64 nn,.string t] 190)).alloc (.cells #[.int .i64 0,.int .i64 0,.int .i64 0,.string ⟨#[]⟩,.string ⟨#[]⟩,.slice none 0 0] 45))=W:=⟨_,rfl⟩
 have hb:Below w.heap.size w W:=by rw [← hW]; exact b_more (b_new _ _) _
 have hs:W.heap.size=w.heap.size + 2:=by rw [← hW]; simp
 have h1:W.heap[w.heap.size + 1]?=some (.cells #[.int .i64 0,.int .i64 0,.int .i64 0,.string ⟨#[]⟩,.string ⟨#[]⟩,.slice none 0 0] 45 (0,0)):=by
  rw [← hW]; have:=World.alloc_heap_new (w.alloc (.cells #[.int .i64 2,.int .i64 p,.string u,.int .i64 vk,.int .i64 nn,.string t] 190)) (.cells #[.int .i64 0,.int .i64 0,.int .i64 0,.string ⟨#[]⟩,.string ⟨#[]⟩,.slice none 0 0] 45 (0,0)); simpa using this
 rw [hW]
 clear hW
 refine (HP.out W hb).mono ?_
 rintro e w2 ⟨rfl,hb2⟩
 have k1:=(hb2.block _ (by omega)).trans h1
 obtain ⟨c1,f1⟩:=cells_of k1
 have l1:=(Array.getElem?_eq_some_iff.1 k1).1
 have HB:=Lib.hid (hb.trans (hb2.mono hb.size))
 clear hb hb2 k1 h1 hs HP
 go_wp2_with fail
 refine bodyPost_ret (v:=.tuple #[.agg #[.int .i64 1,.int .i64 2,.int .i64 1,.string ⟨#[]⟩,.string ⟨#[]⟩,.slice none 0 0],.bool true]) (by simp [results,Tryz.results197,go_sem,c1,l1]) rfl ⟨rfl,?_⟩
 exact b_more ((((((HB.out.setCell (p:=⟨w.heap.size + 1,0,none⟩) (Nat.le_succ _) _).setCell (p:=⟨w.heap.size + 1,1,none⟩) (Nat.le_succ _) _).setCell (p:=⟨w.heap.size + 1,2,none⟩) (Nat.le_succ _) _).setCell (p:=⟨w.heap.size + 1,3,none⟩) (Nat.le_succ _) _).setCell (p:=⟨w.heap.size + 1,4,none⟩) (Nat.le_succ _) _).setCell (p:=⟨w.heap.size + 1,5,none⟩) (Nat.le_succ _) _) _
set_option maxHeartbeats 2000000 in
theorem leaf_false (p vk nn:Int) (u t:ByteArray) (hu:(u.toList == [116,114,117,101])=false) (hv:(u.toList == [102,97,108,115,101])=true) (w:World)
  (hP:∀ W,Below w.heap.size w W->Calls Tryz.prog 204 #[.string u] W fun e w' => e=.returned (.tuple #[.agg #[.int .i64 2,.int .i64 0,.string ⟨#[]⟩],.int .i64 0])/\Below W.heap.size W w') :
  Calls Tryz.prog 197 #[.agg #[.int .i64 2,.int .i64 p,.string u,.int .i64 vk,.int .i64 nn,.string t]] w fun e w' => e=.returned (.tuple #[.agg #[.int .i64 1,.int .i64 2,.int .i64 0,.string ⟨#[]⟩,.string ⟨#[]⟩,.slice none 0 0],.bool true])/\Below w.heap.size w w':=by
 have HP:=Lib.hid hP
 clear hP
 go_enter Tryz.func197,Tryz.ntmps197
 go_wp2_with fail
 obtain ⟨W,hW⟩:∃ W,((w.alloc (.cells #[.int .i64 2,.int .i64 p,.string u,.int .i64 vk,.int .i64 nn,.string t] 190)).alloc (.cells #[.int .i64 0,.int .i64 0,.int .i64 0,.string ⟨#[]⟩,.string ⟨#[]⟩,.slice none 0 0] 45))=W:=⟨_,rfl⟩
 have hb:Below w.heap.size w W:=by rw [← hW]; exact b_more (b_new _ _) _
 have hs:W.heap.size=w.heap.size + 2:=by rw [← hW]; simp
 have h1:W.heap[w.heap.size + 1]?=some (.cells #[.int .i64 0,.int .i64 0,.int .i64 0,.string ⟨#[]⟩,.string ⟨#[]⟩,.slice none 0 0] 45 (0,0)):=by
  rw [← hW]; have:=World.alloc_heap_new (w.alloc (.cells #[.int .i64 2,.int .i64 p,.string u,.int .i64 vk,.int .i64 nn,.string t] 190)) (.cells #[.int .i64 0,.int .i64 0,.int .i64 0,.string ⟨#[]⟩,.string ⟨#[]⟩,.slice none 0 0] 45 (0,0)); simpa using this
 rw [hW]
 clear hW
 refine (HP.out W hb).mono ?_
 rintro e w2 ⟨rfl,hb2⟩
 have k1:=(hb2.block _ (by omega)).trans h1
 obtain ⟨c1,f1⟩:=cells_of k1
 have l1:=(Array.getElem?_eq_some_iff.1 k1).1
 have HB:=Lib.hid (hb.trans (hb2.mono hb.size))
 clear hb hb2 k1 h1 hs HP
 go_wp2_with fail
 refine bodyPost_ret (v:=.tuple #[.agg #[.int .i64 1,.int .i64 2,.int .i64 0,.string ⟨#[]⟩,.string ⟨#[]⟩,.slice none 0 0],.bool true]) (by simp [results,Tryz.results197,go_sem,c1,l1]) rfl ⟨rfl,?_⟩
 exact b_more ((((((HB.out.setCell (p:=⟨w.heap.size + 1,0,none⟩) (Nat.le_succ _) _).setCell (p:=⟨w.heap.size + 1,1,none⟩) (Nat.le_succ _) _).setCell (p:=⟨w.heap.size + 1,2,none⟩) (Nat.le_succ _) _).setCell (p:=⟨w.heap.size + 1,3,none⟩) (Nat.le_succ _) _).setCell (p:=⟨w.heap.size + 1,4,none⟩) (Nat.le_succ _) _).setCell (p:=⟨w.heap.size + 1,5,none⟩) (Nat.le_succ _) _) _
theorem parse_bool (s:ByteArray) (z:Int) (hz:z=0 ∨ z=1) (hs:s.data.toList=ShowM.showL 2 z []) (w:World) (hv:Parse.Vars w) :
  Calls Tryz.prog 204 #[.string s] w fun e w' => e=.returned (.tuple #[.agg #[.int .i64 2,.int .i64 z,.string ⟨#[]⟩],.int .i64 0])/\Below w.heap.size w w':=by
 have hval:ValM.valE 2 z []=0/\ValM.numE 2 z=0/\ValM.strE 2 []=0:=by rcases hz with rfl | rfl <;> decide
 have hlen:s.size<=140737488351232:=by
  have:s.size=(ShowM.showL 2 z []).length:=by rw [← hs]; rfl
  rw [this]; rcases hz with rfl | rfl <;> decide
 obtain ⟨j,y,m,t,h,hc⟩:=Parse.parse_any s hlen
 rcases h with ⟨rfl,h1,h2⟩ | ⟨rfl,_,_,_,h⟩
 ·have e1:=ParseM.cand_show (Show.val_ok h1).1 (Show.val_ok h1).2
  have e2:=ParseM.cand_show hval.2.1 hval.2.2
  rw [h2,hs,e2] at e1
  simp only [Option.some.injEq,Prod.mk.injEq] at e1
  obtain ⟨rfl,rfl,e3⟩:=e1
  have ht:t=⟨#[]⟩:=by
   cases t with
   | mk d => cases d with | mk l => simp at e3; subst e3; rfl
  subst ht
  exact hc w hv
 ·exact absurd hs.symm (h 2 z [] hval.1)
theorem leaf_any (t:Tk) (ht:Kd t) (w:World) (hv:Parse.Vars w):Calls Tryz.prog 197 #[tkV t] w (LeafOut t w):=by
 have eT:=eqb_of ⟨t.s.toArray⟩ [116,114,117,101]
 have eF:=eqb_of ⟨t.s.toArray⟩ [102,97,108,115,101]
 have es:(⟨t.s.toArray⟩:ByteArray).data.toList=t.s:=rfl
 rw [es] at eT eF
 unfold tkV LeafOut
 by_cases hk:t.kind=1 ∨ t.kind=3
 ·refine (leaf_const t.kind t.pos t.vk t.n ⟨t.s.toArray⟩ ⟨t.t.toArray⟩ hk w).mono ?_
  rintro e w' ⟨rfl,hb⟩
  exact ⟨.inl ⟨_,by unfold leafN; rw [if_pos hk],rfl⟩,hb⟩
 by_cases h2:t.kind=2
 ·by_cases g1:t.s=trueB
  ·have:=leaf_true t.pos t.vk t.n ⟨t.s.toArray⟩ ⟨t.t.toArray⟩ (by rw [eT]; exact decide_eq_true g1) w (fun W hb => parse_bool _ 1 (.inr rfl) (by rw [show_true]; exact g1) W (hv.below hb))
   rw [h2]
   refine this.mono ?_
   rintro e w' ⟨rfl,hb⟩
   exact ⟨.inl ⟨_,by unfold leafN; rw [if_neg hk,if_pos g1],rfl⟩,hb⟩
  by_cases g2:t.s=falseB
  ·have:=leaf_false t.pos t.vk t.n ⟨t.s.toArray⟩ ⟨t.t.toArray⟩ (by rw [eT]; exact decide_eq_false g1) (by rw [eF]; exact decide_eq_true g2) w (fun W hb => parse_bool _ 0 (.inl rfl) (by rw [show_false]; exact g2) W (hv.below hb))
   rw [h2]
   refine this.mono ?_
   rintro e w' ⟨rfl,hb⟩
   exact ⟨.inl ⟨_,by unfold leafN; rw [if_neg hk,if_neg g1,if_pos g2],rfl⟩,hb⟩
  have kk:=fun W => key_any ⟨t.s.toArray⟩ W
  cases hkey:keyB t.s with
  | false =>
   have:=leaf_name t.pos t.vk t.n ⟨t.s.toArray⟩ ⟨t.t.toArray⟩ (by rw [eT]; exact decide_eq_false g1) (by rw [eF]; exact decide_eq_false g2) w (fun W => (kk W).mono (fun e w' h => ⟨by rw [h.1,es,hkey],h.2⟩))
   rw [h2]
   refine this.mono ?_
   rintro e w' ⟨rfl,hb⟩
   exact ⟨.inl ⟨_,by unfold leafN; rw [if_neg hk,if_neg g1,if_neg g2,if_pos ⟨h2,hkey⟩],rfl⟩,hb⟩
  | true =>
   have:=leaf_key t.pos t.vk t.n ⟨t.s.toArray⟩ ⟨t.t.toArray⟩ (by rw [eT]; exact decide_eq_false g1) (by rw [eF]; exact decide_eq_false g2) w (fun W => (kk W).mono (fun e w' h => ⟨by rw [h.1,es,hkey],h.2⟩))
   rw [h2]
   refine this.mono ?_
   rintro e w' ⟨rfl,hb⟩
   exact ⟨.inr ⟨by unfold leafN; rw [if_neg hk,if_neg g1,if_neg g2,if_neg (by rw [hkey]; simp)],rfl⟩,hb⟩
 ·rcases ht with h | h | h | ⟨h,g1,g2⟩
  ·exact absurd (.inl h) hk
  ·exact absurd (.inr h) hk
  ·exact absurd h h2
  refine (leaf_none t.kind t.pos t.vk t.n ⟨t.s.toArray⟩ ⟨t.t.toArray⟩ (fun e => hk (.inl e)) h2 (fun e => hk (.inr e)) (by rw [eT]; exact decide_eq_false g1) (by rw [eF]; exact decide_eq_false g2) w).mono ?_
  rintro e w' ⟨rfl,hb⟩
  exact ⟨.inr ⟨by unfold leafN; rw [if_neg hk,if_neg g1,if_neg g2,if_neg (fun e => h2 e.1)],rfl⟩,hb⟩
end PsLf
namespace LexS
open Go.RowKit
open LexM LexB LexT Kit
set_option linter.unusedVariables false
def sg (k:Nat):List UInt8:=sgnL.getD k []
theorem pre2 (a b c:UInt8) (r:List UInt8):Lib.hasPrefix (c :: r) [a,b]=decide (c=a/\r.head?=some b):=by
 unfold Lib.hasPrefix
 cases r with
 | nil => simp [List.isPrefixOf]
 | cons d r =>
  rw [Bool.eq_iff_iff]
  simp [List.isPrefixOf]
  constructor
  ·rintro ⟨h1,h2⟩; exact ⟨h1.symm,h2.symm⟩
  ·rintro ⟨h1,h2⟩; exact ⟨h1.symm,h2.symm⟩
theorem pre1 (a c:UInt8) (r:List UInt8):Lib.hasPrefix (c :: r) [a]=decide (c=a):=by
 unfold Lib.hasPrefix
 rw [Bool.eq_iff_iff]
 simp [List.isPrefixOf]
 exact ⟨fun h => h.symm,fun h => h.symm⟩
/-- The first sign that fits is the token. -/
theorem sgn_hit (c : UInt8) (r : List UInt8) (k : Nat) (hk : k < 13) (h : Lib.hasPrefix (c :: r) (sg k) = true) (hno : ∀ i, i < k → Lib.hasPrefix (c :: r) (sg i) = false) :
    sgnT c r = .tok ⟨4, (sg k).length, 0, 0, []⟩ ∧ (c :: r).take (sg k).length = sg k := by
  have two : 2 ≤ k → ¬ ((c = 60 ∨ c = 33) ∧ r.head? = some 61) := fun hk2 => by
    have h0 := hno 0 (by omega)
    have h1 := hno 1 (by omega)
    rw [show sg 0 = [60, 61] from rfl, pre2, decide_eq_false_iff_not] at h0
    rw [show sg 1 = [33, 61] from rfl, pre2, decide_eq_false_iff_not] at h1
    rintro ⟨g | g, g2⟩
    · exact h0 ⟨g, g2⟩
    · exact h1 ⟨g, g2⟩
  unfold sgnT
  match k, hk with
  | 0, _ =>
    rw [show sg 0 = [60, 61] from rfl, pre2, decide_eq_true_eq] at h
    refine ⟨by rw [if_pos ⟨.inl h.1, h.2⟩]; rfl, ?_⟩
    cases r with
    | nil => simp at h
    | cons d r => have h2 := h.2; simp at h2; rw [h.1, h2]; rfl
  | 1, _ =>
    rw [show sg 1 = [33, 61] from rfl, pre2, decide_eq_true_eq] at h
    refine ⟨by rw [if_pos ⟨.inr h.1, h.2⟩]; rfl, ?_⟩
    cases r with
    | nil => simp at h
    | cons d r => have h2 := h.2; simp at h2; rw [h.1, h2]; rfl
  | 2, _ | 3, _ | 4, _ | 5, _ | 6, _ | 7, _ | 8, _ | 9, _ | 10, _ | 11, _ | 12, _ =>
    first
      | (rw [if_neg (two (by omega))]
         unfold sg sgnL at h ⊢
         simp only [List.getD_cons_succ, List.getD_cons_zero] at h ⊢
         rw [pre1, decide_eq_true_eq] at h
         subst h
         exact ⟨by rw [if_pos (by decide)]; rfl, rfl⟩)
theorem sgn_none (c:UInt8) (r:List UInt8) (hno:∀ i,i < 13->Lib.hasPrefix (c :: r) (sg i)=false):sgnT c r=.bad 3:=by
 have h0:=hno 0 (by omega); have h1:=hno 1 (by omega); have h2:=hno 2 (by omega); have h3:=hno 3 (by omega); have h4:=hno 4 (by omega); have h5:=hno 5 (by omega); have h6:=hno 6 (by omega)
 have h7:=hno 7 (by omega); have h8:=hno 8 (by omega); have h9:=hno 9 (by omega); have h10:=hno 10 (by omega); have h11:=hno 11 (by omega); have h12:=hno 12 (by omega)
 simp only [sg,sgnL,List.getD_cons_succ,List.getD_cons_zero,pre1,pre2,decide_eq_false_iff_not] at h0 h1 h2 h3 h4 h5 h6 h7 h8 h9 h10 h11 h12
 unfold sgnT
 rw [if_neg (fun g => by rcases g with ⟨g | g,g2⟩; exact h0 ⟨g,g2⟩; exact h1 ⟨g,g2⟩)]
 rw [if_neg]
 unfold sgnB
 simp [h2,h3,h4,h5,h6,h7,h8,h9,h10,h11,h12]
theorem sg_at (k:Nat) (h:k < 13) (w:World):(Instr.index 219 (.agg #[.string ⟨#[60,61]⟩,.string ⟨#[33,61]⟩,.string ⟨#[60]⟩,.string ⟨#[61]⟩,.string ⟨#[43]⟩,.string ⟨#[45]⟩,.string ⟨#[42]⟩,.string ⟨#[47]⟩,.string ⟨#[37]⟩,.string ⟨#[38]⟩,.string ⟨#[40]⟩,.string ⟨#[41]⟩,.string ⟨#[44]⟩]) (.int .i64 k)).run Tryz.prog w=.ok (.string ⟨(sg k).toArray⟩) w:=by
 obtain rfl | rfl | rfl | rfl | rfl | rfl | rfl | rfl | rfl | rfl | rfl | rfl | rfl:k=0 ∨ k=1 ∨ k=2 ∨ k=3 ∨ k=4 ∨ k=5 ∨ k=6 ∨ k=7 ∨ k=8 ∨ k=9 ∨ k=10 ∨ k=11 ∨ k=12:=by omega
 all_goals kernel_rfl
theorem pre_any (s p:ByteArray) (w:World):Calls Tryz.prog 159 #[.string s,.string p] w fun e w' => e=.returned (.bool (Lib.hasPrefix s.data.toList p.data.toList))/\w=w' :=
 (Tryz.strings_HasPrefix s p w).mono fun _ _ h => ⟨h.1,h.2.symm⟩
theorem sgn_cells {w : World} (h : StrTab.Is Tryz.prog w "lychway/lex.signs" sgnL) (i : Nat) (hi : i < 13) : w.cell? ⟨6, i, none⟩ = some (.string ⟨(sg i).toArray⟩) :=
 StrTab.Is.cell h (g:=6) (by kernel_rfl) i hi
set_option maxHeartbeats 1000000 in
theorem sign_any (s:ByteArray) (h0:0 < s.size):∃ (k vk n e:Int) (u t:ByteArray),Tells (sgnT s[0] (s.data.toList.drop 1)) s.data.toList k vk n e u t ∧
  ∀ w:World,Vars w->Calls Tryz.prog 147 #[.string s] w fun x w' => x=.returned (.tuple #[.agg #[.int .i64 k,.int .i64 0,.string u,.int .i64 vk,.int .i64 n,.string t],.int .i64 e])/\Below w.heap.size w w':=by
 have hcr:s.data.toList=s[0] :: s.data.toList.drop 1:=by have:=drop_cons s 0 h0; rwa [List.drop_zero] at this
 obtain ⟨k,vk,n,e,u,t,ht,hY,hN⟩:∃ (k vk n e:Int) (u t:ByteArray),Tells (sgnT s[0] (s.data.toList.drop 1)) s.data.toList k vk n e u t ∧
   (∀ i,i < 13->Lib.hasPrefix s.data.toList (sg i)=true->(∀ j,j < i->Lib.hasPrefix s.data.toList (sg j)=false)->k=4/\vk=0/\n=0/\e=0/\u=⟨(sg i).toArray⟩/\t=⟨#[]⟩) ∧
   ((∀ j,j < 13->Lib.hasPrefix s.data.toList (sg j)=false)->k=0/\vk=0/\n=0/\e=3/\u=⟨#[]⟩/\t=⟨#[]⟩):=by
  by_cases hx:∃ i,i < 13/\Lib.hasPrefix s.data.toList (sg i)=true/\∀ j,j < i->Lib.hasPrefix s.data.toList (sg j)=false
  ·obtain ⟨i,hi,h1,h2⟩:=hx
   refine ⟨4,0,0,0,⟨(sg i).toArray⟩,⟨#[]⟩,?_,fun i' hi' g1 g2 => ?_,fun g => ?_⟩
   ·have h1':=h1; have h2':=h2
    rw [hcr] at h1' h2'
    obtain ⟨a,b⟩:=sgn_hit _ _ i hi h1' h2'
    rw [a]
    refine ⟨rfl,rfl,?_,rfl,rfl,rfl⟩
    rw [hcr]; exact b.symm
   ·have e:i'=i:=by
     rcases Nat.lt_trichotomy i' i with x | x | x
     ·rw [h2 i' x] at g1; cases g1
     ·exact x
     ·rw [g2 i x] at h1; cases h1
    rw [e]; exact ⟨rfl,rfl,rfl,rfl,rfl,rfl⟩
   ·rw [g i hi] at h1; cases h1
  ·have hall:∀ m j,j < m->m<=13->Lib.hasPrefix s.data.toList (sg j)=false:=by
    intro m
    induction m with
    | zero => intro j hj; omega
    | succ m ih =>
     intro j hj hm
     by_cases g:j < m
     ·exact ih j g (by omega)
     ·obtain rfl:j=m:=by omega
      cases hh:Lib.hasPrefix s.data.toList (sg j) with
      | false => rfl
      | true => exact absurd ⟨j,by omega,hh,fun i hi => ih i hi (by omega)⟩ hx
   refine ⟨0,0,0,3,⟨#[]⟩,⟨#[]⟩,?_,fun i' hi' g1 _ => ?_,fun _ => ⟨rfl,rfl,rfl,rfl,rfl,rfl⟩⟩
   ·have h3:∀ j,j < 13->Lib.hasPrefix (s[0] :: s.data.toList.drop 1) (sg j)=false:=fun j hj => by rw [← hcr]; exact hall 13 j hj (Nat.le_refl _)
    rw [sgn_none _ _ h3]; exact ⟨rfl,by decide⟩
   ·rw [hall 13 i' hi' (Nat.le_refl _)] at g1; cases g1
 refine ⟨k,vk,n,e,u,t,ht,fun w hv => ?_⟩
 have q0:=sgn_cells hv.sgn 0 (by omega); have q1:=sgn_cells hv.sgn 1 (by omega); have q2:=sgn_cells hv.sgn 2 (by omega); have q3:=sgn_cells hv.sgn 3 (by omega); have q4:=sgn_cells hv.sgn 4 (by omega); have q5:=sgn_cells hv.sgn 5 (by omega); have q6:=sgn_cells hv.sgn 6 (by omega)
 have q7:=sgn_cells hv.sgn 7 (by omega); have q8:=sgn_cells hv.sgn 8 (by omega); have q9:=sgn_cells hv.sgn 9 (by omega); have q10:=sgn_cells hv.sgn 10 (by omega); have q11:=sgn_cells hv.sgn 11 (by omega); have q12:=sgn_cells hv.sgn 12 (by omega)
 have hg:6 < w.heap.size:=by
  rcases Nat.lt_or_ge 6 w.heap.size with h | h
  ·exact h
  ·simp [World.cell?,Array.getElem?_eq_none h] at q0
 simp only [sg,sgnL,List.getD_cons_succ,List.getD_cons_zero] at q0 q1 q2 q3 q4 q5 q6 q7 q8 q9 q10 q11 q12
 have HY:=Lib.hid hY
 have HN:=Lib.hid hN
 clear hY hN ht hv
 go_enter Tryz.func147,Tryz.ntmps147
 go_wp2_with fail
 go_loop [5,7] (fun _ i => ∃ j:Nat,j<=13/\i=.int .i64 j/\∀ m,m < j->Lib.hasPrefix s.data.toList (sg m)=false) (fun _ i => 13 - (intOf i).toNat)
 case atStart => exact ⟨0,by omega,rfl,fun m hm => by omega⟩
 case round =>
  obtain ⟨j,hj,rfl,hno⟩:=hrel
  have HO:=Lib.hid hno
  clear hno
  clear q0 q1 q2 q3 q4 q5 q6 q7 q8 q9 q10 q11 q12
  by_cases hlt:j < 13
  ·have ix:=fun W => sg_at j hlt W
   obtain ⟨p,hp⟩:∃ p:ByteArray,ByteArray.mk (sg j).toArray=p:=⟨_,rfl⟩
   have c1:=fun W => pre_any s p W
   have hpp:Lib.hasPrefix s.data.toList p.data.toList=Lib.hasPrefix s.data.toList (sg j):=by rw [← hp]
   obtain ⟨b,hb⟩:∃ b,Lib.hasPrefix s.data.toList (sg j)=b:=⟨_,rfl⟩
   rw [hpp,hb] at c1
   rw [hp] at ix
   have C1:=Lib.hid c1
   have HB:=Lib.hid hb
   have HP:=Lib.hid hp
   clear c1 hb hpp hp
   cases b
   ·go_wp2_with fail
    refine (C1.out _).mono ?_; rintro e w1 ⟨rfl,rfl⟩
    go_wp2_with fail
    go_round
    case rel => exact ⟨j + 1,by omega,by go_num,fun m hm => by
     by_cases g:m=j
     ·subst g; exact HB.out
     ·exact HO.out m (by omega)⟩
    case measure => simp [intOf]; omega
   ·have hY:=HY.out j hlt HB.out HO.out
    rw [HP.out] at hY
    obtain ⟨rfl,rfl,rfl,rfl,rfl,rfl⟩:=hY
    clear HY HN HP HB HO
    go_wp2_with fail
    refine (C1.out _).mono ?_; rintro e w1 ⟨rfl,rfl⟩
    go_wp2_with fail
    refine bodyPost_ret (v:=.tuple #[.agg #[.int .i64 4,.int .i64 0,.string u,.int .i64 0,.int .i64 0,.string ⟨#[]⟩],.int .i64 0]) (by simp [results,Tryz.results147,go_sem]) rfl ⟨rfl,b_new _ _⟩
  ·have hN:=HN.out fun m hm => HO.out m (by omega)
   obtain ⟨rfl,rfl,rfl,rfl,rfl,rfl⟩:=hN
   clear HY HN HO
   go_wp2_with fail
   refine bodyPost_ret (v:=.tuple #[.agg #[.int .i64 0,.int .i64 0,.string ⟨#[]⟩,.int .i64 0,.int .i64 0,.string ⟨#[]⟩],.int .i64 3]) (by simp [results,Tryz.results147,go_sem]) rfl ⟨rfl,b_new _ _⟩
theorem first_any (s:ByteArray) (hs:s.size<=140737488351232) (h0:0 < s.size):∃ (k vk n e:Int) (u t:ByteArray),Tells (firstF s.data.toList) s.data.toList k vk n e u t ∧
  ∀ w:World,Vars w->Calls Tryz.prog 124 #[.string s] w fun x w' => x=.returned (.tuple #[.agg #[.int .i64 k,.int .i64 0,.string u,.int .i64 vk,.int .i64 n,.string t],.int .i64 e])/\Below w.heap.size w w':=by
 have hcr:s.data.toList=s[0] :: s.data.toList.drop 1:=by have:=drop_cons s 0 h0; rwa [List.drop_zero] at this
 have hf:firstF s.data.toList=if digB s[0] then numT (s.data.toList.takeWhile digB) else if lowB s[0] then wordT (s.data.toList.takeWhile alnB) else if s[0]=34 then quoT (s.data.toList.drop 1) else sgnT s[0] (s.data.toList.drop 1):=by
  conv => lhs; rw [hcr,first_cons]
  rw [← hcr]
 have hpi:(0:Int) < s.size:=by omega
 have c1:=fun W => isDigit_any s[0] W
 have c2:=fun W => isLetter_any s[0] W
 have t34:=byte_is s[0] 34 (by decide)
 rw [show ((34:Nat):Int)=34 from rfl] at t34
 rw [hf]
 cases b1:digB s[0] with
 | true =>
  rw [if_pos rfl]
  obtain ⟨k,vk,n,e,u,t,ht,hc⟩:=number_any s hs h0 b1
  refine ⟨k,vk,n,e,u,t,ht,fun w hv => ?_⟩
  rw [b1] at c1
  have C1:=Lib.hid c1
  have C3:=Lib.hid hc
  have HV:=Lib.hid hv
  clear c1 c2 hc hv hcr hf ht b1 t34
  go_enter Tryz.func124,Tryz.ntmps124
  go_wp2_with fail
  refine (C1.out _).mono ?_; rintro e w1 ⟨rfl,rfl⟩
  go_wp2_with fail
  refine (C3.out _ (HV.out.below (b_new w _))).mono ?_; rintro e w1 ⟨rfl,hb1⟩
  obtain ⟨c1,d1⟩:=bcell hb1
  have hz:w.heap.size < w1.heap.size:=Nat.lt_of_lt_of_le (by simp) hb1.size
  go_wp2_with fail
  refine bodyPost_ret (v:=.tuple #[.agg #[.int .i64 k,.int .i64 0,.string u,.int .i64 vk,.int .i64 n,.string t],.int .i64 e]) (by simp [results,Tryz.results124,go_sem,c1]) rfl ⟨rfl,?_⟩
  exact b_set6 (b_then hb1) _ (Nat.le_refl _) _ _ _ _ _ _
 | false =>
  rw [if_neg (by decide)]
  rw [b1] at c1
  cases b2:lowB s[0] with
  | true =>
   rw [if_pos rfl]
   obtain ⟨k,vk,n,e,u,t,ht,hc⟩:=word_any s hs
   refine ⟨k,vk,n,e,u,t,ht,fun w hv => ?_⟩
   rw [b2] at c2
   have C1:=Lib.hid c1
   have C2:=Lib.hid c2
   have C3:=Lib.hid hc
   clear c1 c2 hc hv hcr hf ht b1 b2 t34
   go_enter Tryz.func124,Tryz.ntmps124
   go_wp2_with fail
   refine (C1.out _).mono ?_; rintro e w1 ⟨rfl,rfl⟩
   go_wp2_with fail
   refine (C2.out _).mono ?_; rintro e w1 ⟨rfl,rfl⟩
   go_wp2_with fail
   refine (C3.out _).mono ?_; rintro e w1 ⟨rfl,hb1⟩
   obtain ⟨c1,d1⟩:=bcell hb1
   have hz:w.heap.size < w1.heap.size:=Nat.lt_of_lt_of_le (by simp) hb1.size
   go_wp2_with fail
   refine bodyPost_ret (v:=.tuple #[.agg #[.int .i64 k,.int .i64 0,.string u,.int .i64 vk,.int .i64 n,.string t],.int .i64 e]) (by simp [results,Tryz.results124,go_sem,c1]) rfl ⟨rfl,?_⟩
   exact b_set6 (b_then hb1) _ (Nat.le_refl _) _ _ _ _ _ _
  | false =>
   rw [if_neg (by decide)]
   rw [b2] at c2
   by_cases h34:s[0]=34
   ·rw [if_pos h34]
    obtain ⟨k,vk,n,e,u,t,ht,hc⟩:=quote_any s hs h0
    refine ⟨k,vk,n,e,u,t,ht,fun w hv => ?_⟩
    have t34':((s[0].toNat:Int) == 34)=true:=by rw [t34]; exact decide_eq_true h34
    have C1:=Lib.hid c1
    have C2:=Lib.hid c2
    have C3:=Lib.hid hc
    clear c1 c2 hc hv hcr hf ht b1 b2 t34 h34
    go_enter Tryz.func124,Tryz.ntmps124
    go_wp2_with fail
    refine (C1.out _).mono ?_; rintro e w1 ⟨rfl,rfl⟩
    go_wp2_with fail
    refine (C2.out _).mono ?_; rintro e w1 ⟨rfl,rfl⟩
    go_wp2_with fail
    refine (C3.out _).mono ?_; rintro e w1 ⟨rfl,hb1⟩
    obtain ⟨c1,d1⟩:=bcell hb1
    have hz:w.heap.size < w1.heap.size:=Nat.lt_of_lt_of_le (by simp) hb1.size
    go_wp2_with fail
    refine bodyPost_ret (v:=.tuple #[.agg #[.int .i64 k,.int .i64 0,.string u,.int .i64 vk,.int .i64 n,.string t],.int .i64 e]) (by simp [results,Tryz.results124,go_sem,c1]) rfl ⟨rfl,?_⟩
    exact b_set6 (b_then hb1) _ (Nat.le_refl _) _ _ _ _ _ _
   ·rw [if_neg h34]
    obtain ⟨k,vk,n,e,u,t,ht,hc⟩:=sign_any s h0
    refine ⟨k,vk,n,e,u,t,ht,fun w hv => ?_⟩
    have t34':((s[0].toNat:Int) == 34)=false:=by rw [t34]; exact decide_eq_false h34
    have C1:=Lib.hid c1
    have C2:=Lib.hid c2
    have C3:=Lib.hid hc
    have HV:=Lib.hid hv
    clear c1 c2 hc hv hcr hf ht b1 b2 t34 h34
    go_enter Tryz.func124,Tryz.ntmps124
    go_wp2_with fail
    refine (C1.out _).mono ?_; rintro e w1 ⟨rfl,rfl⟩
    go_wp2_with fail
    refine (C2.out _).mono ?_; rintro e w1 ⟨rfl,rfl⟩
    go_wp2_with fail
    refine (C3.out _ (HV.out.below (b_new w _))).mono ?_; rintro e w1 ⟨rfl,hb1⟩
    obtain ⟨c1,d1⟩:=bcell hb1
    have hz:w.heap.size < w1.heap.size:=Nat.lt_of_lt_of_le (by simp) hb1.size
    go_wp2_with fail
    refine bodyPost_ret (v:=.tuple #[.agg #[.int .i64 k,.int .i64 0,.string u,.int .i64 vk,.int .i64 n,.string t],.int .i64 e]) (by simp [results,Tryz.results124,go_sem,c1]) rfl ⟨rfl,?_⟩
    exact b_set6 (b_then hb1) _ (Nat.le_refl _) _ _ _ _ _ _
end LexS
namespace Lex
open Go.RowKit
open LexM LexB LexT LexS Kit
set_option linter.unusedVariables false
theorem own_below {w w1:World} {base:Nat} {e:TypeId} {size:Nat} {v:Value} {n:Nat} {xs:List Value} (h:w.ownsRow base e size v n xs) (hb:Below w.heap.size w w1):w1.ownsRow base e size v n xs :=
 h.kept (row:=none) ⟨hb.os,hb.tape,hb.output,hb.size,fun k hk _ => hb.block k hk⟩ (by cases hv:v.ownBlock <;> simp)
def tkC (x:Tk):List Value:=[.int .i64 x.kind,.int .i64 x.pos,.string ⟨x.s.toArray⟩,.int .i64 x.vk,.int .i64 x.n,.string ⟨x.t.toArray⟩]
def tksC (l:List Tk):List Value:=l.flatMap tkC
theorem tksC_snoc (l:List Tk) (x:Tk):tksC l ++ tkC x=tksC (l ++ [x]):=by unfold tksC; rw [List.flatMap_append]; simp
theorem tksC_len (l:List Tk):(tksC l).length=l.length * 6:=by
 induction l with
 | nil => rfl
 | cons x l ih =>
  have:tksC (x :: l)=tkC x ++ tksC l:=by unfold tksC; rw [List.flatMap_cons]
  rw [this,List.length_append,ih,List.length_cons]; show 6 + _=_; omega
structure TInv (w:World) (s:ByteArray) (k:Nat) (acc:List Tk) (v:Value) (wr:World):Prop where
 le:k<=s.size
 own:wr.ownsRow w.heap.size 190 6 v acc.length (tksC acc)
 is:fin [] (tokens s.data.toList 0)=fin acc (tokens (s.data.toList.drop k) k)
 below:Below w.heap.size w wr
 few:acc.length<=k
def Out (l:List UInt8) (w:World) (x:Ending) (w':World):Prop :=
 ∃ v:Value,x=.returned (.tuple #[v,.int .i64 (lexR l).2.1,.int .i64 (lexR l).2.2])/\w'.ownsRow w.heap.size 190 6 v (lexR l).1.length (tksC (lexR l).1)/\Below w.heap.size w w'
theorem Out.mk_ {l:List UInt8} {w w':World} {v:Value} {a e:Int} {ts:List Tk} {p:Nat} (h:lexR l=(ts,p,e)) (ha:a=p) (ho:w'.ownsRow w.heap.size 190 6 v ts.length (tksC ts)) (hb:Below w.heap.size w w'):Out l w (.returned (.tuple #[v,.int .i64 a,.int .i64 e])) w':=by
 refine ⟨v,?_,?_,hb⟩
 ·rw [h,ha]
 ·rw [h]; exact ho
theorem drop_of (s:ByteArray) (k:Nat):(s.extract k s.size).data.toList=s.data.toList.drop k:=by
 rw [Lib.extract_data,List.take_of_length_le]
 rw [List.length_drop,len_size]
 omega
theorem infoTok:(Tryz.prog.info? 190).map (fun i => (i.zero,i.size,i.bytes))=some (some (.agg #[.int .i64 0,.int .i64 0,.string ⟨#[]⟩,.int .i64 0,.int .i64 0,.string ⟨#[]⟩]),6,64):=by kernel_rfl
theorem TInv.space {w wr:World} {s:ByteArray} {k:Nat} {acc:List Tk} {v:Value} (h:TInv w s k acc v wr) (hk:k < s.size) (hc:s[k]=32):TInv w s (k + 1) acc v wr:=by
 refine ⟨hk,h.own,?_,h.below,by have:=h.few; omega⟩
 rw [h.is,drop_cons s k hk,hc,tokens_space]
theorem TInv.bad {w wr:World} {s:ByteArray} {k:Nat} {acc:List Tk} {v:Value} {q:Int} (h:TInv w s k acc v wr) (hs:s.size<=160) (hk:k < s.size) (hc:s[k] ≠ 32) (hf:firstF (s.data.toList.drop k)=.bad q):lexR s.data.toList=([],k,q):=by
 rw [lexR_of hs,h.is]
 rw [drop_cons s k hk] at hf ⊢
 rw [tokens_bad hc hf]; rfl
theorem TInv.end_ {w wr:World} {s:ByteArray} {k:Nat} {acc:List Tk} {v:Value} (h:TInv w s k acc v wr) (hs:s.size<=160) (hk:¬ k < s.size):lexR s.data.toList=(acc,0,0):=by
 rw [lexR_of hs,h.is,List.drop_eq_nil_of_le (by rw [len_size]; omega)]
 show (acc ++ [],0,0)=_
 rw [List.append_nil]
theorem TInv.tok {w wr w3:World} {s:ByteArray} {k:Nat} {acc:List Tk} {v v':Value} {T:Tok} {u:ByteArray} (h:TInv w s k acc v wr) (hk:k < s.size) (hc:s[k] ≠ 32) (hf:firstF (s.data.toList.drop k)=.tok T) (hu:u.data.toList=(s.data.toList.drop k).take T.len)
  (ho:w3.ownsRow w.heap.size 190 6 v' (acc.length + 1) (tksC (acc ++ [LexM.mk T k (s.data.toList.drop k)]))) (hb:Below w.heap.size w w3):TInv w s (k + u.size) (acc ++ [LexM.mk T k (s.data.toList.drop k)]) v' w3:=by
 have hl:=first_len hf
 have hus:u.size=T.len:=by
  rw [← len_size,hu,List.length_take]
  omega
 rw [List.length_drop,len_size] at hl
 refine ⟨by omega,by rw [List.length_append]; exact ho,?_,hb,by have:=h.few; simp; omega⟩
 rw [h.is]
 rw [drop_cons s k hk] at hf
 conv => lhs; rw [drop_cons s k hk,tokens_tok hc hf,← drop_cons s k hk,List.drop_drop,fin_cons]
 rw [hus]
theorem u_len {s u:ByteArray} {k:Nat} {T:Tok} (hf:firstF (s.data.toList.drop k)=.tok T) (hu:u.data.toList=(s.data.toList.drop k).take T.len):1<=u.size/\u.size<=s.size:=by
 have hl:=first_len hf
 have:u.size=T.len:=by
  rw [← len_size,hu,List.length_take]; omega
 rw [List.length_drop,len_size] at hl
 omega
theorem tkC_mk {T:Tok} {k:Nat} {l:List UInt8} {kd vk n:Int} {u t:ByteArray} (h1:T.kind=kd) (h2:u.data.toList=l.take T.len) (h3:T.vk=vk) (h4:T.n=n) (h5:t.data.toList=T.t):[.int .i64 kd,.int .i64 (k:Int),.string u,.int .i64 vk,.int .i64 n,.string t]=tkC (LexM.mk T k l):=by
 unfold tkC LexM.mk
 simp only [h1,h3,h4,← h2,← h5]
set_option maxHeartbeats 1000000 in
set_option maxRecDepth 100000 in
theorem tokens_any (s:ByteArray) (w:World) (hs:s.size<=140737488351232) (hv:Vars w):Calls Tryz.prog 100 #[.string s] w (Out s.data.toList w):=by
 obtain ⟨i0,hi,hz0,hz1,hz2⟩:=info_parts infoTok
 by_cases hbig:160 < s.size
 ·have hR:lexR s.data.toList=([],0,1):=lexR_long hbig
  have HR:=Lib.hid hR
  clear hR
  go_enter Tryz.func100,Tryz.ntmps100
  go_wp2_with fail
  go_ret3
  exact Out.mk_ HR.out rfl (World.ownsRow_nil _ _ _ _) (Below.refl _ _)
 ·have h0:TInv w s 0 [] (.slice none 0 0) w:=⟨Nat.zero_le _,World.ownsRow_nil _ _ _ _,by rw [List.drop_zero],Below.refl _ _,Nat.le_refl _⟩
  have H0:=Lib.hid h0
  have HV:=Lib.hid hv
  clear h0 hv
  go_enter Tryz.func100,Tryz.ntmps100
  go_wp2_with fail
  go_loopw [5,6,7,8] (fun v i _ _ wr => ∃ (k:Nat) (acc:List Tk),i=.int .i64 k/\TInv w s k acc v wr) (fun _ i _ _ _ => s.size - (intOf i).toNat)
  case atStart => exact ⟨0,[],rfl,H0.out⟩
  case round =>
   obtain ⟨k,acc,rfl,hI⟩:=hrel
   have hle:=hI.le
   have hfew:=hI.few
   have HI:=Lib.hid hI
   clear hI
   by_cases hlt:k < s.size
   ·by_cases h32:s[k]=32
    ·have t1:((s[k].toNat:Int) == 32)=true:=by rw [h32]; rfl
     have hN:=HI.out.space hlt h32
     have HN:=Lib.hid hN
     clear hN h32
     go_wp2_with fail
     go_roundw
     case rel => exact ⟨k + 1,acc,by go_num,HN.out⟩
     case measure => simp [intOf]; omega
    ·have t1:((s[k].toNat:Int) == 32)=false:=by have:=byte_is s[k] 32 (by decide); rw [show ((32:Nat):Int)=32 from rfl] at this; rw [this]; exact decide_eq_false h32
     obtain ⟨kd,vk,n,e,u,t,ht,hc⟩:=first_any (s.extract k s.size) (by simp; omega) (by simp; omega)
     rw [drop_of] at ht
     have H32:=Lib.hid h32
     have HC:=Lib.hid hc
     clear h32 hc
     cases hf:firstF (s.data.toList.drop k) with
     | bad q =>
      rw [hf] at ht
      obtain ⟨rfl,hq⟩:=ht
      have hR:=HI.out.bad (by omega) hlt H32.out hf
      have HR:=Lib.hid hR
      have t2:(e != 0)=true:=bne_iff_ne.2 hq
      clear hR hf hq
      go_wp2_with fail
      refine (HC.out _ (HV.out.below HI.out.below)).mono ?_; rintro x w1 ⟨rfl,hb1⟩
      go_wp2_with fail
      go_ret3
      exact Out.mk_ HR.out rfl (World.ownsRow_nil _ _ _ _) (HI.out.below.trans ((b_more hb1 _).mono HI.out.below.size))
     | tok T =>
      rw [hf] at ht
      obtain ⟨rfl,g1,g2,g3,g4,g5⟩:=ht
      obtain ⟨hu1,hu2⟩:=u_len hf g2
      have hcell:=tkC_mk (k:=k) g1 g2 g3 g4 g5
      have HF:=Lib.hid hf
      have HG2:=Lib.hid g2
      have HCell:=Lib.hid hcell
      clear hf g1 g2 g3 g4 g5 hcell
      go_wp2_with fail
      refine (HC.out _ (HV.out.below HI.out.below)).mono ?_; rintro x w1 ⟨rfl,hb1⟩
      have hown:=own_below HI.out.own hb1
      have hlt1:=hown.lt
      have HL:=Lib.hid hlt1
      have hbw:Below w.heap.size w w1:=HI.out.below.trans (hb1.mono HI.out.below.size)
      have hbs:=hbw.size
      clear hlt1
      go_wp2_with (at_builtin; refine wpList_append_own _ rfl _ _ 158 rfl w.heap.size 190 i0 (.agg #[.int .i64 0,.int .i64 0,.string ⟨#[]⟩,.int .i64 0,.int .i64 0,.string ⟨#[]⟩]) 6 64 Tryz.underlying158 hi hz0 hz1 hz2 rfl (by decide) _ _ _ rfl ((hown.alloc _).alloc _) ⟨w1.heap.size + 1,0,none⟩ 1 1 [.int .i64 kd,.int .i64 (k:Int),.string u,.int .i64 vk,.int .i64 n,.string t] rfl rfl ?c1 ?c2 ?c3 ?c4 ?c5 ?_)
      case c1 =>
       intro j y hj
       match j,hj with
       | 0,hj => simp at hj; subst hj; simp [Addr.add]
       | 1,hj => simp at hj; subst hj; simp [Addr.add]
       | 2,hj => simp at hj; subst hj; simp [Addr.add]
       | 3,hj => simp at hj; subst hj; simp [Addr.add]
       | 4,hj => simp at hj; subst hj; simp [Addr.add]
       | 5,hj => simp at hj; subst hj; simp [Addr.add]
       | j + 6,hj => simp at hj
      case c2 => intro y hy; simp at hy; rcases hy with rfl | rfl | rfl | rfl | rfl | rfl <;> rfl
      case c3 => unfold maxLen; omega
      case c4 => omega
      case c5 => simp; omega
      intro v' w3 hown3 hgrow _
      rw [HCell.out,tksC_snoc] at hown3
      have k2:w3.cell? ⟨w1.heap.size,2,none⟩=some (.string u):=hgrow.cell (by simp) (fun e => by have:=(HL.out _ e.symm).2; exact absurd this (Nat.lt_irrefl _))
      have hb3:Below w.heap.size w w3:=((hbw.alloc (by omega) _).alloc (by simp; omega) _).grown hgrow (by simp; omega) (fun g hg => (HL.out g hg).1)
      have hN:=HI.out.tok hlt H32.out HF.out HG2.out hown3 hb3
      have HN:=Lib.hid hN
      have HB3:=Lib.hid hb3
      clear hN hown3 hgrow hb3
      go_wp2
      go_roundw
      case rel => exact ⟨k + u.size,_,by go_num,HN.out⟩
      case measure => simp [intOf]; omega
   ·have hR:=HI.out.end_ (by omega) hlt
    have HR:=Lib.hid hR
    clear hR
    go_wp2_with fail
    go_ret3
    exact Out.mk_ HR.out rfl HI.out.own HI.out.below
theorem lex_cases (l:List UInt8):(∃ ts,l.length<=160/\tokens l 0=.ok ts/\lexR l=(ts,0,0)) ∨ (160 < l.length/\lexR l=([],0,1)) ∨
  (∃ p e ts,l.length<=160/\p < l.length/\(e=1 ∨ e=3 ∨ e=7)/\lexR l=([],p,e)/\lexR (l.take p)=(ts,0,0)):=by
 by_cases h:160 < l.length
 ·exact .inr (.inl ⟨h,lexR_long h⟩)
 ·have hl:l.length<=160:=by omega
  cases ht:tokens l 0 with
  | ok ts => exact .inl ⟨ts,hl,rfl,by rw [lexR_of hl,ht]; rfl⟩
  | bad p e =>
   obtain ⟨_,h2,h3,ts,h4⟩:=wrong l 0 p e ht
   refine .inr (.inr ⟨p,e,ts,hl,by omega,h3,by rw [lexR_of hl,ht]; rfl,?_⟩)
   rw [Nat.sub_zero] at h4
   rw [lexR_of (by rw [List.length_take]; omega),h4]; rfl
theorem own_slice {w:World} {base:Nat} {e:TypeId} {size:Nat} {v:Value} {n:Nat} {xs:List Value} (h:w.ownsRow base e size v n xs):∃ A c,v=.slice A n c:=by
 rcases h.2 with ⟨h1,h2⟩ | ⟨g,cap,cur,h1,_⟩
 ·exact ⟨none,0,by rw [h2]; exact h1⟩
 ·exact ⟨some ⟨g,0,none⟩,cap,h1⟩
theorem own_form {w:World} {base:Nat} {e:TypeId} {size:Nat} {v:Value} {n:Nat} {xs:List Value} (h:w.ownsRow base e size v n xs) (hn:0 < n) :
  ∃ g cap,v=.slice (some ⟨g,0,none⟩) n cap/\base<=g/\g < w.heap.size/\n<=cap/\cap<=maxLen/\∀ j,j < n * size->w.cell? ⟨g,j,none⟩=xs[j]?:=by
 rcases h.2 with ⟨_,h2⟩ | ⟨g,cap,cur,h1,h2,h3,h4,h5,_⟩
 ·omega
 ·subst h1
  have hl:=h.lt g rfl
  exact ⟨g,cap,rfl,h2,hl.2,h4,h5,fun j hj => h.cellAt j hj⟩
end Lex
namespace PsE
open Go.RowKit
open LexM ExM Kit ExL ExP PsM PsT NmC Ps PsR PsL PsA PsF PsT2 PsD PsLx PsLf
set_option linter.unusedVariables false
theorem tksC_get (l:List Tk):∀ (i:Nat) (h:i < l.length) (j:Nat),j < 6->(Lex.tksC l)[i * 6 + j]?=(Ps.tkC l[i])[j]?:=by
 intro i h j hj
 have hx:l.drop i=l[i] :: l.drop (i + 1):=List.drop_eq_getElem_cons h
 have e:l=l.take i ++ (l[i] :: l.drop (i + 1)):=by rw [← hx,List.take_append_drop]
 have e2:Lex.tksC l=Lex.tksC (l.take i) ++ (Ps.tkC l[i] ++ Lex.tksC (l.drop (i + 1))):=by
  conv => lhs; rw [e]
  unfold Lex.tksC
  rw [List.flatMap_append,List.flatMap_cons]; rfl
 have e3:(Lex.tksC (l.take i)).length=i * 6:=by rw [Lex.tksC_len,List.length_take]; rw [Nat.min_eq_left (by omega)]
 rw [e2,List.getElem?_append_right (by rw [e3]; omega),e3,show i * 6 + j - i * 6=j by omega,List.getElem?_append_left (by show j < 6; exact hj)]
theorem env_of {w1:World} {base:Nat} {l:List UInt8} {ts:List Tk} {A:Option Addr} {c:Nat} (hlen:l.length<=160) (htk:tokens l 0=.ok ts) (ho:w1.ownsRow base 190 6 (.slice A ts.length c) ts.length (Lex.tksC ts)) (hT:ExN.Tab w1) (hv:Parse.Vars w1):∀ P,w1.heap.size<=P->Env w1 P A ts:=fun P hP => by
 refine ⟨Nat.le_trans (few l 0 ts htk) hlen,fun i h => ?_,hP,hT,fun t ht W hb => leaf_any t (tok_facts l 0 ts htk t ht).2.2.2 W (hv.below hb)⟩
 obtain ⟨g,cap,hA,_,_,_,_,q⟩:=Lex.own_form ho (by omega)
 injection hA with hA _ _
 exact ⟨g,hA,fun j hj => by rw [q (i * 6 + j) (by omega),tksC_get ts i h j hj]⟩
theorem full_of {l:List UInt8} {ts:List Tk} (htk:tokens l 0=.ok ts):Full ts:=fun t ht => (tok_facts l 0 ts htk t ht).1
theorem small_of {l:List UInt8} {ts:List Tk} (hlen:l.length<=160) (htk:tokens l 0=.ok ts):Small ts:=fun t ht => by
 obtain ⟨_,h1,h2,_⟩:=tok_facts l 0 ts htk t ht
 exact ⟨by omega,by omega⟩
def x0:Ex:=.mk ⟨0,0,0,⟨#[]⟩,⟨#[]⟩⟩ []
def PR (l:List UInt8) (x:Ex) (a er:Int):Prop :=
 (∃ (p:Nat) (e:Int),lexR l=([],p,e)/\e ≠ 0/\x=x0/\a=p/\er=e) ∨
 ∃ ts o,lexR l=(ts,0,0)/\Ev (.form 0) ts o/\((∃ y,o=.ok [y] []/\a=0/\er=y.checkE/\x=if y.checkE=0 then y else x0) ∨ ∃ r,((∃ y,o=.ok [y] r/\r ≠ []) ∨ o=.bad r)/\a=atOf l.length r/\er=3/\x=x0)
set_option maxRecDepth 100000 in
set_option maxHeartbeats 8000000 in
theorem Parse_any (s:ByteArray) (w:World) (hs:s.size<=140737488351232) (hv:LexT.Vars w) (hp:Parse.Vars w) (hT:ExN.Tab w) :
  Calls Tryz.prog 61 #[.string s] w (ParsedOut w (PR s.data.toList)):=by
 obtain ⟨W,hW⟩:∃ W,w.alloc (.cells #[.int .i64 0,.int .i64 0,.int .i64 0,.string ⟨#[]⟩,.string ⟨#[]⟩,.slice none 0 0] 45)=W:=⟨_,rfl⟩
 have hb:Below w.heap.size w W:=by rw [← hW]; exact b_new _ _
 have hsz:W.heap.size=w.heap.size + 1:=by rw [← hW]; simp
 have h1:W.heap[w.heap.size]?=some (.cells #[.int .i64 0,.int .i64 0,.int .i64 0,.string ⟨#[]⟩,.string ⟨#[]⟩,.slice none 0 0] 45 (0,0)):=by rw [← hW]; exact World.alloc_heap_new w _
 have hc:=Lex.tokens_any s W hs (hv.below hb)
 have hL:=Lex.lex_cases s.data.toList
 obtain ⟨R,hR⟩:∃ R,PR s.data.toList=R:=⟨_,rfl⟩
 have HW:=Lib.hid hW
 have HC:=Lib.hid hc
 have HL:=Lib.hid hL
 have HR:=Lib.hid hR
 rw [hR]
 clear hW hc hL hR
 go_enter Tryz.func61,Tryz.ntmps61
 go_upto_region 1 with fail
 rw [HW.out]
 go_wp2_with fail
 refine HC.out.mono ?_
 rintro e w1 ⟨v,rfl,ho,hb1⟩
 have k1:=(hb1.block _ (by omega)).trans h1
 have hB1:Below w.heap.size w w1:=hb.trans (hb1.mono hb.size)
 obtain ⟨c1,f1⟩:=cells_of k1
 have l1:=(Array.getElem?_eq_some_iff.1 k1).1
 clear HC h1 HW
 have hcases:(∃ ts,s.data.toList.length<=160/\tokens s.data.toList 0=.ok ts/\lexR s.data.toList=(ts,0,0)) ∨ ∃ (p:Nat) (e:Int),lexR s.data.toList=([],p,e)/\e ≠ 0:=by
  rcases HL.out with h | ⟨_,h⟩ | ⟨p,e,ts,_,_,he,h,_⟩
  ·exact .inl h
  ·exact .inr ⟨_,_,h,by decide⟩
  ·exact .inr ⟨p,e,h,by rcases he with rfl | rfl | rfl <;> decide⟩
 clear HL
 rcases hcases with ⟨ts,hlen,htk,hl⟩ | ⟨p,e,hl,he⟩
 ·rw [hl] at ho ⊢
  dsimp only
  obtain ⟨A,c,rfl⟩:=Lex.own_slice ho
  have hE:=env_of hlen htk ho (hT.below hB1) (hp.below hB1)
  obtain ⟨o,hev,hsh⟩:=PsTot.form_total ts
  have hP:=parsed_any ts A c (s.size:Int) w1 hE (full_of htk) (small_of hlen htk) o hev hsh
  unfold ParsedOut at hP
  have HP:=Lib.hid hP
  have HB1:=Lib.hid hB1
  have HEv:=Lib.hid hev
  have K1:=Lib.hid k1
  clear ho hb hb1 hB1 k1 hE hP hev hsh
  go_wp2_with fail
  refine HP.out.mono ?_
  rintro e w2 ⟨x,d,B,m,cp,a,er,rfl,hix,hR2,hb2⟩
  have k2:=(hb2.block _ l1).trans K1.out
  obtain ⟨c2,f2⟩:=cells_of k2
  have l2:=(Array.getElem?_eq_some_iff.1 k2).1
  have hbw2:Below w.heap.size w w2:=HB1.out.trans (hb2.mono HB1.out.size)
  obtain ⟨WS,hWS⟩:∃ W,S6 w2 w.heap.size (.int .i64 d.op) (.int .i64 d.k) (.int .i64 d.n) (.string d.s) (.string d.nm) (.slice B m cp)=W:=⟨_,rfl⟩
  have cS:=set6_box k2 (.int .i64 d.op) (.int .i64 d.k) (.int .i64 d.n) (.string d.s) (.string d.nm) (.slice B m cp)
  have hh:=fun b (hb:b ≠ w.heap.size) => s6_heap w2 w.heap.size b hb (.int .i64 d.op) (.int .i64 d.k) (.int .i64 d.n) (.string d.s) (.string d.nm) (.slice B m cp)
  have hgS:=s6_grown w2 w.heap.size (.int .i64 d.op) (.int .i64 d.k) (.int .i64 d.n) (.string d.s) (.string d.nm) (.slice B m cp)
  rw [hWS] at cS hh hgS
  have hbS:Below w.heap.size w WS:=hbw2.grown hgS hbw2.size (fun j e => by injection e with e; omega)
  have hixS:IsP (fun b => w.heap.size < b) WS x d B m:=IsP.keep (fun b hb _ => hh b (by have h1:w1.heap.size<=b:=hb; omega)) (fun b hb _ => by have h1:w1.heap.size<=b:=hb; show w.heap.size < b; omega) _ _ _ _ hix
  have hck:=ExC.check_any x d B m cp WS (IsP.is _ _ _ _ hixS) (hT.below hbS)
  obtain ⟨q,hq⟩:∃ q,x.checkE=q:=⟨_,rfl⟩
  rw [hq] at hck
  have HCK:=Lib.hid hck
  have HWS:=Lib.hid hWS
  have HBS:=Lib.hid hbS
  have CS:=Lib.hid cS
  have HIX:=Lib.hid hixS
  have lS:=(Array.getElem?_eq_some_iff.1 cS).1
  clear hck hWS hbS cS hh hgS hixS hix hb2 k2 hbw2 HP c1 f1 l1 K1 HB1
  rcases hR2 with ⟨ho,rfl,rfl⟩ | ⟨r,hr,rfl,rfl⟩
  ·go_upto_region 6 with fail
   unfold S6 at HWS
   rw [HWS.out]
   obtain ⟨c3,f3⟩:=cells_of CS.out
   clear c2 f2 l2 HWS
   go_wp2_with fail
   refine HCK.out.mono ?_
   rintro e w3 ⟨rfl,hb3⟩
   have k4:=(hb3.block _ lS).trans CS.out
   obtain ⟨c4,f4⟩:=cells_of k4
   have l4:=(Array.getElem?_eq_some_iff.1 k4).1
   have HB3:=Lib.hid (HBS.out.trans (hb3.mono HBS.out.size))
   have HI3:=Lib.hid (HIX.out.below hb3)
   clear c3 f3 hb3 k4 HCK HIX HBS lS CS
   by_cases hq0:q=0
   ·subst hq0
    go_wp2_with fail
    refine bodyPost_ret (v:=.tuple #[.agg #[.int .i64 d.op,.int .i64 d.k,.int .i64 d.n,.string d.s,.string d.nm,.slice B m cp],.int .i64 0,.int .i64 0]) (by simp [results,Tryz.results61,go_sem,c4]) rfl ⟨x,d,B,m,cp,0,0,rfl,?_,?_,LexT.b_set6 HB3.out _ (Nat.le_refl _) _ _ _ _ _ _⟩
    ·exact IsP.keep (fun b hb _ => s6_heap w3 w.heap.size b (by have h1:w.heap.size < b:=hb; omega) _ _ _ _ _ _) (fun b hb _ => Nat.le_of_lt hb) _ _ _ _ HI3.out
    ·rw [← HR.out]; exact .inr ⟨ts,o,hl,HEv.out,.inl ⟨x,ho,rfl,hq.symm,by rw [hq,if_pos rfl]⟩⟩
   ·have e1:(q == 0)=false:=beq_eq_false_iff_ne.2 hq0
    go_wp2_with fail
    refine bodyPost_ret (v:=.tuple #[.agg #[.int .i64 0,.int .i64 0,.int .i64 0,.string ⟨#[]⟩,.string ⟨#[]⟩,.slice none 0 0],.int .i64 0,.int .i64 q]) (by simp [results,Tryz.results61,go_sem,c4]) rfl ⟨x0,⟨0,0,0,⟨#[]⟩,⟨#[]⟩⟩,none,0,0,_,_,rfl,isP_leaf _ _ _ _ (Nat.zero_le _) (Nat.zero_le _),?_,LexT.b_set6 HB3.out _ (Nat.le_refl _) _ _ _ _ _ _⟩
    exact (by rw [← HR.out]; exact .inr ⟨ts,o,hl,HEv.out,.inl ⟨x,ho,rfl,hq.symm,by rw [hq,if_neg hq0]⟩⟩)
  ·go_upto_region 8 with fail
   unfold S6 at HWS
   rw [HWS.out]
   obtain ⟨c3,f3⟩:=cells_of CS.out
   clear c2 f2 l2 HWS HCK
   go_wp2_with fail
   refine bodyPost_ret (v:=.tuple #[.agg #[.int .i64 0,.int .i64 0,.int .i64 0,.string ⟨#[]⟩,.string ⟨#[]⟩,.slice none 0 0],.int .i64 (atOf (s.size:Int) r),.int .i64 3]) (by simp [results,Tryz.results61,go_sem,c3]) rfl ⟨x0,⟨0,0,0,⟨#[]⟩,⟨#[]⟩⟩,none,0,0,_,_,rfl,isP_leaf _ _ _ _ (Nat.zero_le _) (Nat.zero_le _),?_,LexT.b_set6 HBS.out _ (Nat.le_refl _) _ _ _ _ _ _⟩
   exact (by rw [← HR.out]; exact .inr ⟨ts,o,hl,HEv.out,.inr ⟨r,hr,rfl,rfl,rfl⟩⟩)
 ·rw [hl] at ho ⊢
  have HB1:=Lib.hid hB1
  clear ho hb hb1 hB1 k1
  have e1:(e == 0)=false:=beq_eq_false_iff_ne.2 he
  dsimp only
  go_wp2_with fail
  refine bodyPost_ret (v:=.tuple #[.agg #[.int .i64 0,.int .i64 0,.int .i64 0,.string ⟨#[]⟩,.string ⟨#[]⟩,.slice none 0 0],.int .i64 (p:Int),.int .i64 e]) (by simp [results,Tryz.results61,go_sem,c1]) rfl ⟨x0,⟨0,0,0,⟨#[]⟩,⟨#[]⟩⟩,none,0,0,_,_,rfl,isP_leaf _ _ _ _ (Nat.zero_le _) (Nat.zero_le _),?_,LexT.b_set6 HB1.out _ (Nat.le_refl _) _ _ _ _ _ _⟩
  exact (by rw [← HR.out]; exact .inl ⟨p,e,hl,he,rfl,rfl,rfl⟩)
end PsE
end Go.Proofs.YtjhhmdmmllblhaaGreatDoor
