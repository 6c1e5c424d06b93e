/- ValueCmp EvOper: what these laws name of them. -/
import Derived.Laws.Rows
import Derived.Test.YtonlkmkfcaadlaaGreatDoorKw02
import Derived.Test.YtonlkmkfcaadlaaGreatDoorKw03
import Derived.Test.YtonlkmkfcaadlaaGreatDoorKw07
namespace Go.Proofs.YtonlkmkfcaadlaaGreatDoor
set_option linter.unusedVariables false
namespace ValCmp
open Go.RowKit
open NumM ValM StrM Kit
set_option linter.unusedVariables false
def ordV (k n m:Int) (s t:List UInt8):Int:=if k=3 then Lib.compareBytes s t else Lib.compareInt n m
theorem strcmp (a b:ByteArray) (w:World):Calls Tryz.prog 197 #[.string a,.string b] w fun e w' => e=.returned (.int .i64 (Lib.compareBytes a.data.toList b.data.toList))/\w=w' :=
 (Tryz.strings_Compare a b w).mono fun _ _ h => ⟨h.1,h.2.symm⟩
theorem intcmp (a b:Int) (w:World):Calls Tryz.prog 81 #[.int .i64 a,.int .i64 b] w fun e w' => e=.returned (.int .i64 (Lib.compareInt a b))/\w=w' :=
 (Tryz.cmp_Compare_int a b w).mono fun _ _ h => ⟨h.1,h.2.symm⟩
theorem compare_good (k n m:Int) (s t:ByteArray) (w:World) (h1:knownB k n s.data.toList=true) (h2:knownB k m t.data.toList=true) :
  Calls Tryz.prog 177 #[.agg #[.int .i64 k,.int .i64 n,.string s],.agg #[.int .i64 k,.int .i64 m,.string t]] w fun e w' => e=.returned (.tuple #[.int .i64 (ordV k n m s.data.toList t.data.toList),.int .i64 0])/\Below w.heap.size w w':=by
 have c1:=fun W => Val.known_any k n s W
 have c2:=fun W => Val.known_any k m t W
 rw [h1] at c1
 rw [h2] at c2
 have C1:=Lib.hid c1
 have C2:=Lib.hid c2
 clear c1 c2
 by_cases hk:k=3
 ·subst hk
  have e:ordV 3 n m s.data.toList t.data.toList=Lib.compareBytes s.data.toList t.data.toList:=by unfold ordV; rw [if_pos rfl]
  rw [e]
  obtain ⟨q,hq⟩:∃ q:Int,Lib.compareBytes s.data.toList t.data.toList=q:=⟨_,rfl⟩
  have c3:=fun W => strcmp s t W
  rw [hq] at c3 ⊢
  have C3:=Lib.hid c3
  clear c3 hq e h1 h2
  go_enter Tryz.func177,Tryz.ntmps177
  go_wp2_with fail
  refine (C1.out _).mono ?_; rintro e w1 ⟨rfl,hb1⟩
  obtain ⟨g0,g1,g2,g3⟩:=box3 w.heap.size 3 n s hb1 (by simp; omega) (by simp [go_sem]) (by simp [go_sem]) (by simp [go_sem])
  obtain ⟨f0,f1,f2,f3⟩:=box3 (w.heap.size + 1) 3 m t hb1 (by simp) (by simp [go_sem]) (by simp [go_sem]) (by simp [go_sem])
  go_wp2_with fail
  refine (C2.out _).mono ?_; rintro e w2 ⟨rfl,hb2⟩
  obtain ⟨g0,g1,g2,g3⟩:=box3 w.heap.size 3 n s hb2 (by assumption) (by assumption) (by assumption) (by assumption)
  obtain ⟨f0,f1,f2,f3⟩:=box3 (w.heap.size + 1) 3 m t hb2 (by assumption) (by assumption) (by assumption) (by assumption)
  go_wp2_with fail
  refine (C3.out _).mono ?_; rintro e w3 ⟨rfl,rfl⟩
  go_wp2_with fail
  go_ret2
  exact ⟨rfl,b_then (b_then (b_trans hb1 hb2))⟩
 ·have e:ordV k n m s.data.toList t.data.toList=Lib.compareInt n m:=by unfold ordV; rw [if_neg hk]
  rw [e]
  obtain ⟨q,hq⟩:∃ q:Int,Lib.compareInt n m=q:=⟨_,rfl⟩
  have c3:=fun W => intcmp n m W
  rw [hq] at c3 ⊢
  have C3:=Lib.hid c3
  have hk3:(k == 3)=false:=beq_eq_false_iff_ne.2 hk
  clear c3 hq e h1 h2 hk
  go_enter Tryz.func177,Tryz.ntmps177
  go_wp2_with fail
  refine (C1.out _).mono ?_; rintro e w1 ⟨rfl,hb1⟩
  obtain ⟨g0,g1,g2,g3⟩:=box3 w.heap.size k n s hb1 (by simp; omega) (by simp [go_sem]) (by simp [go_sem]) (by simp [go_sem])
  obtain ⟨f0,f1,f2,f3⟩:=box3 (w.heap.size + 1) k m t hb1 (by simp) (by simp [go_sem]) (by simp [go_sem]) (by simp [go_sem])
  go_wp2_with fail
  refine (C2.out _).mono ?_; rintro e w2 ⟨rfl,hb2⟩
  obtain ⟨g0,g1,g2,g3⟩:=box3 w.heap.size k n s hb2 (by assumption) (by assumption) (by assumption) (by assumption)
  obtain ⟨f0,f1,f2,f3⟩:=box3 (w.heap.size + 1) k m t hb2 (by assumption) (by assumption) (by assumption) (by assumption)
  go_wp2_with fail
  refine (C3.out _).mono ?_; rintro e w3 ⟨rfl,rfl⟩
  go_wp2_with fail
  go_ret2
  exact ⟨rfl,b_then (b_then (b_trans hb1 hb2))⟩
theorem compare_bad (k n j m:Int) (s t:ByteArray) (w:World) (h:¬ (knownB k n s.data.toList=true/\knownB j m t.data.toList=true/\k=j)) :
  Calls Tryz.prog 177 #[.agg #[.int .i64 k,.int .i64 n,.string s],.agg #[.int .i64 j,.int .i64 m,.string t]] w fun e w' => e=.returned (.tuple #[.int .i64 0,.int .i64 9])/\Below w.heap.size w w':=by
 have c1:=fun W => Val.known_any k n s W
 have c2:=fun W => Val.known_any j m t W
 obtain ⟨x,hx⟩:∃ x:Bool,knownB k n s.data.toList=x:=⟨_,rfl⟩
 obtain ⟨y,hy⟩:∃ y:Bool,knownB j m t.data.toList=y:=⟨_,rfl⟩
 rw [hx] at c1 h
 rw [hy] at c2 h
 have C1:=Lib.hid c1
 have C2:=Lib.hid c2
 clear c1 c2 hx hy
 cases x
 ·clear h
  go_enter Tryz.func177,Tryz.ntmps177
  go_wp2_with fail
  refine (C1.out _).mono ?_; rintro e w1 ⟨rfl,hb1⟩
  go_wp2_with fail
  go_ret2
  exact ⟨rfl,b_then (b_then hb1)⟩
 ·cases y
  ·clear h
   go_enter Tryz.func177,Tryz.ntmps177
   go_wp2_with fail
   refine (C1.out _).mono ?_; rintro e w1 ⟨rfl,hb1⟩
   obtain ⟨f0,f1,f2,f3⟩:=box3 (w.heap.size + 1) j m t hb1 (by simp) (by simp [go_sem]) (by simp [go_sem]) (by simp [go_sem])
   go_wp2_with fail
   refine (C2.out _).mono ?_; rintro e w2 ⟨rfl,hb2⟩
   go_wp2_with fail
   go_ret2
   exact ⟨rfl,b_then (b_then (b_trans hb1 hb2))⟩
  ·have hkj:(k != j)=true:=bne_iff_ne.2 (fun e => h ⟨rfl,rfl,e⟩)
   clear h
   go_enter Tryz.func177,Tryz.ntmps177
   go_wp2_with fail
   refine (C1.out _).mono ?_; rintro e w1 ⟨rfl,hb1⟩
   obtain ⟨g0,g1,g2,g3⟩:=box3 w.heap.size k n s hb1 (by simp; omega) (by simp [go_sem]) (by simp [go_sem]) (by simp [go_sem])
   obtain ⟨f0,f1,f2,f3⟩:=box3 (w.heap.size + 1) j m t hb1 (by simp) (by simp [go_sem]) (by simp [go_sem]) (by simp [go_sem])
   go_wp2_with fail
   refine (C2.out _).mono ?_; rintro e w2 ⟨rfl,hb2⟩
   obtain ⟨g0,g1,g2,g3⟩:=box3 w.heap.size k n s hb2 (by assumption) (by assumption) (by assumption) (by assumption)
   obtain ⟨f0,f1,f2,f3⟩:=box3 (w.heap.size + 1) j m t hb2 (by assumption) (by assumption) (by assumption) (by assumption)
   go_wp2_with fail
   go_ret2
   exact ⟨rfl,b_then (b_then (b_trans hb1 hb2))⟩
end ValCmp
namespace Ev
open Go.RowKit
open NumM ValM StrM ExM TyM EvM Kit
set_option linter.unusedVariables false
theorem truth_any (b:Bool) (w:World):Calls Tryz.prog 119 #[.bool b] w fun e w' => e=.returned (.agg #[.int .i64 2,.int .i64 (bitI b),.string ⟨#[]⟩])/\Below w.heap.size w w':=by
 cases b
 ·go_enter Tryz.func119,Tryz.ntmps119
  go_wp2_with fail
  refine bodyPost_ret (v:=.agg #[.int .i64 2,.int .i64 0,.string ⟨#[]⟩]) (by simp [results,Tryz.results119,go_sem]) rfl ⟨rfl,b_new _ _⟩
 ·go_enter Tryz.func119,Tryz.ntmps119
  go_wp2_with fail
  refine bodyPost_ret (v:=.agg #[.int .i64 2,.int .i64 1,.string ⟨#[]⟩]) (by simp [results,Tryz.results119,go_sem]) rfl ⟨rfl,b_new _ _⟩
theorem fault_any (n:Int) (w:World):Calls Tryz.prog 117 #[.int .i64 n] w fun e w' => e=.returned (.agg #[.int .i64 5,.int .i64 n,.string ⟨#[]⟩])/\Below w.heap.size w w':=by
 go_enter Tryz.func117,Tryz.ntmps117
 go_wp2_with fail
 refine bodyPost_ret (v:=.agg #[.int .i64 5,.int .i64 n,.string ⟨#[]⟩]) (by simp [results,Tryz.results117,go_sem]) rfl ⟨rfl,b_new _ _⟩
theorem length_any (v:Vl) (hs:v.s.size<=40) (w:World):Calls Tryz.prog 151 #[.agg #[.int .i64 v.k,.int .i64 v.n,.string v.s]] w fun e w' => e=.returned (.tuple #[.agg #[.int .i64 (lenR v).1.k,.int .i64 (lenR v).1.n,.string (lenR v).1.s],.int .i64 (lenR v).2])/\Below w.heap.size w w':=by
 obtain ⟨k,n,s⟩:=v
 obtain ⟨R,hR⟩:∃ R,lenR ⟨k,n,s⟩=R:=⟨_,rfl⟩
 rw [hR]
 by_cases h:k=3
 ·subst h
  obtain rfl:R=(⟨1,(s.size:Int),⟨#[]⟩⟩,0):=by rw [← hR]; rfl
  clear hR
  simp only at hs
  go_enter Tryz.func151,Tryz.ntmps151
  go_wp2_with fail
  refine bodyPost_ret (v:=.tuple #[.agg #[.int .i64 1,.int .i64 (s.size:Int),.string ⟨#[]⟩],.int .i64 0]) (by simp [results,Tryz.results151,go_sem]) rfl ⟨rfl,b_more (b_new _ _) _⟩
 ·obtain rfl:R=(zeroV,9):=by rw [← hR]; unfold lenR; rw [if_neg h]
  have h3:(k == 3)=false:=beq_eq_false_iff_ne.2 h
  clear hR h hs
  go_enter Tryz.func151,Tryz.ntmps151
  go_wp2_with fail
  refine bodyPost_ret (v:=.tuple #[.agg #[.int .i64 0,.int .i64 0,.string ⟨#[]⟩],.int .i64 9]) (by simp [results,Tryz.results151,go_sem]) rfl ⟨rfl,b_more (b_new _ _) _⟩
theorem joined_any (a b:Vl) (ha:a.s.size<=40) (hb:b.s.size<=40) (w:World):Calls Tryz.prog 150 #[.agg #[.int .i64 a.k,.int .i64 a.n,.string a.s],.agg #[.int .i64 b.k,.int .i64 b.n,.string b.s]] w fun e w' => e=.returned (.tuple #[.agg #[.int .i64 (joinR a b).1.k,.int .i64 (joinR a b).1.n,.string (joinR a b).1.s],.int .i64 (joinR a b).2])/\Below w.heap.size w w':=by
 obtain ⟨k,n,s⟩:=a
 obtain ⟨j,m,t⟩:=b
 simp only at ha hb
 obtain ⟨R,hR⟩:∃ R,joinR ⟨k,n,s⟩ ⟨j,m,t⟩=R:=⟨_,rfl⟩
 rw [hR]
 have hz:¬ (k=3/\j=3)->R=(zeroV,9):=fun h => by rw [← hR]; unfold joinR; rw [if_neg h]
 by_cases h:k=3
 ·subst h
  by_cases g:j=3
  ·subst g
   by_cases hl:40 < s.size + t.size
   ·obtain rfl:R=(zeroV,1):=by rw [← hR]; unfold joinR; rw [if_pos ⟨rfl,rfl⟩,if_pos hl]
    clear hR hz
    go_enter Tryz.func150,Tryz.ntmps150
    go_wp2_with fail
    refine bodyPost_ret (v:=.tuple #[.agg #[.int .i64 0,.int .i64 0,.string ⟨#[]⟩],.int .i64 1]) (by simp [results,Tryz.results150,go_sem]) rfl ⟨rfl,b_more (b_more (b_new _ _) _) _⟩
   ·obtain rfl:R=(⟨3,0,s ++ t⟩,0):=by rw [← hR]; unfold joinR; rw [if_pos ⟨rfl,rfl⟩,if_neg hl]
    clear hR hz
    go_enter Tryz.func150,Tryz.ntmps150
    go_wp2_with fail
    refine bodyPost_ret (v:=.tuple #[.agg #[.int .i64 3,.int .i64 0,.string (s ++ t)],.int .i64 0]) (by simp [results,Tryz.results150,go_sem]) rfl ⟨rfl,b_more (b_more (b_new _ _) _) _⟩
  ·obtain rfl:=hz (fun h => g h.2)
   have h3:(j == 3)=false:=beq_eq_false_iff_ne.2 g
   clear hR hz g ha hb
   go_enter Tryz.func150,Tryz.ntmps150
   go_wp2_with fail
   refine bodyPost_ret (v:=.tuple #[.agg #[.int .i64 0,.int .i64 0,.string ⟨#[]⟩],.int .i64 9]) (by simp [results,Tryz.results150,go_sem]) rfl ⟨rfl,b_more (b_more (b_new _ _) _) _⟩
 ·obtain rfl:=hz (fun g => h g.1)
  have h3:(k == 3)=false:=beq_eq_false_iff_ne.2 h
  clear hR hz h ha hb
  go_enter Tryz.func150,Tryz.ntmps150
  go_wp2_with fail
  refine bodyPost_ret (v:=.tuple #[.agg #[.int .i64 0,.int .i64 0,.string ⟨#[]⟩],.int .i64 9]) (by simp [results,Tryz.results150,go_sem]) rfl ⟨rfl,b_more (b_more (b_new _ _) _) _⟩
theorem truth_t (w:World):Calls Tryz.prog 119 #[.bool true] w fun e w' => e=.returned (.agg #[.int .i64 2,.int .i64 1,.string ⟨#[]⟩])/\Below w.heap.size w w':=truth_any true w
theorem truth_f (w:World):Calls Tryz.prog 119 #[.bool false] w fun e w' => e=.returned (.agg #[.int .i64 2,.int .i64 0,.string ⟨#[]⟩])/\Below w.heap.size w w':=truth_any false w
theorem b_step {wc w w':World} (h:Below wc.heap.size wc w) (h':Below w.heap.size w w'):Below wc.heap.size wc w':=h.trans (h'.mono h.size)
set_option maxHeartbeats 2000000 in
theorem negation_bool (b:Bool) (w:World):Calls Tryz.prog 149 #[.agg #[.int .i64 2,.int .i64 (bitI b),.string ⟨#[]⟩]] w fun e w' => e=.returned (.tuple #[.agg #[.int .i64 2,.int .i64 (bitI !b),.string ⟨#[]⟩],.int .i64 0])/\Below w.heap.size w w':=by
 cases b
 ·show Calls _ _ #[.agg #[.int .i64 2,.int .i64 0,.string ⟨#[]⟩]] w fun e w' => e=.returned (.tuple #[.agg #[.int .i64 2,.int .i64 1,.string ⟨#[]⟩],.int .i64 0])/\Below w.heap.size w w'
  have hbl:Below ((w.alloc (.cells #[.int .i64 2,.int .i64 0,.string ⟨#[]⟩] 38)).alloc (.cells #[.int .i64 0,.int .i64 0,.string ⟨#[]⟩] 38)).heap.size ((w.alloc (.cells #[.int .i64 2,.int .i64 0,.string ⟨#[]⟩] 38)).alloc (.cells #[.int .i64 0,.int .i64 0,.string ⟨#[]⟩] 38)) ((w.alloc (.cells #[.int .i64 2,.int .i64 0,.string ⟨#[]⟩] 38)).alloc (.cells #[.int .i64 0,.int .i64 0,.string ⟨#[]⟩] 38)):=Below.refl _ _
  go_enter Tryz.func149,Tryz.ntmps149
  go_wp2_with fail
  go_region_with (go_at_call 119; (first | (with_reducible refine (truth_t _).mono ?_) | (with_reducible refine (truth_f _).mono ?_)); rintro e w1 ⟨rfl,hb1⟩; have hbl:=(by first | exact b_step hbl hb1 | exact b_step (b_drew hbl) hb1 | exact b_step hbl (b_undrew hb1):Below ((w.alloc (.cells #[.int .i64 2,.int .i64 0,.string ⟨#[]⟩] 38)).alloc (.cells #[.int .i64 0,.int .i64 0,.string ⟨#[]⟩] 38)).heap.size ((w.alloc (.cells #[.int .i64 2,.int .i64 0,.string ⟨#[]⟩] 38)).alloc (.cells #[.int .i64 0,.int .i64 0,.string ⟨#[]⟩] 38)) w1); obtain ⟨c1,d1⟩:=bcell hbl; have z1:=zlt hbl)
  all_goals (go_wp2_with fail; refine bodyPost_ret (v:=.tuple #[.agg #[.int .i64 2,.int .i64 1,.string ⟨#[]⟩],.int .i64 0]) (by simp [results,Tryz.results149,go_sem,c1]) rfl ⟨rfl,b_set3 (b_then (b_then hbl)) _ (by omega) _ _ _⟩)
 ·show Calls _ _ #[.agg #[.int .i64 2,.int .i64 1,.string ⟨#[]⟩]] w fun e w' => e=.returned (.tuple #[.agg #[.int .i64 2,.int .i64 0,.string ⟨#[]⟩],.int .i64 0])/\Below w.heap.size w w'
  have hbl:Below ((w.alloc (.cells #[.int .i64 2,.int .i64 1,.string ⟨#[]⟩] 38)).alloc (.cells #[.int .i64 0,.int .i64 0,.string ⟨#[]⟩] 38)).heap.size ((w.alloc (.cells #[.int .i64 2,.int .i64 1,.string ⟨#[]⟩] 38)).alloc (.cells #[.int .i64 0,.int .i64 0,.string ⟨#[]⟩] 38)) ((w.alloc (.cells #[.int .i64 2,.int .i64 1,.string ⟨#[]⟩] 38)).alloc (.cells #[.int .i64 0,.int .i64 0,.string ⟨#[]⟩] 38)):=Below.refl _ _
  go_enter Tryz.func149,Tryz.ntmps149
  go_wp2_with fail
  go_region_with (go_at_call 119; (first | (with_reducible refine (truth_t _).mono ?_) | (with_reducible refine (truth_f _).mono ?_)); rintro e w1 ⟨rfl,hb1⟩; have hbl:=(by first | exact b_step hbl hb1 | exact b_step (b_drew hbl) hb1 | exact b_step hbl (b_undrew hb1):Below ((w.alloc (.cells #[.int .i64 2,.int .i64 1,.string ⟨#[]⟩] 38)).alloc (.cells #[.int .i64 0,.int .i64 0,.string ⟨#[]⟩] 38)).heap.size ((w.alloc (.cells #[.int .i64 2,.int .i64 1,.string ⟨#[]⟩] 38)).alloc (.cells #[.int .i64 0,.int .i64 0,.string ⟨#[]⟩] 38)) w1); obtain ⟨c1,d1⟩:=bcell hbl; have z1:=zlt hbl)
  all_goals (go_wp2_with fail; refine bodyPost_ret (v:=.tuple #[.agg #[.int .i64 2,.int .i64 0,.string ⟨#[]⟩],.int .i64 0]) (by simp [results,Tryz.results149,go_sem,c1]) rfl ⟨rfl,b_set3 (b_then (b_then hbl)) _ (by omega) _ _ _⟩)
theorem negation_any (v:Vl) (hv:v.ok) (w:World):Calls Tryz.prog 149 #[.agg #[.int .i64 v.k,.int .i64 v.n,.string v.s]] w fun e w' => e=.returned (.tuple #[.agg #[.int .i64 (notR v).1.k,.int .i64 (notR v).1.n,.string (notR v).1.s],.int .i64 (notR v).2])/\Below w.heap.size w w':=by
 obtain ⟨k,n,s⟩:=v
 by_cases h:k=2
 ·subst h
  rcases ok_cases hv with h | ⟨_,h,h2⟩ | h | h | h
  ·exact absurd (show (2:Int)=1 from h.1) (by decide)
  ·simp only at h h2
   subst h2
   rcases h with rfl | rfl
   ·exact negation_bool false w
   ·exact negation_bool true w
  ·exact absurd (show (2:Int)=3 from h.1) (by decide)
  ·exact absurd (show (2:Int)=4 from h.1) (by decide)
  ·exact absurd (show (2:Int)=5 from h.1) (by decide)
 ·obtain ⟨R,hR⟩:∃ R,notR ⟨k,n,s⟩=R:=⟨_,rfl⟩
  rw [hR]
  obtain rfl:R=(zeroV,9):=by rw [← hR]; unfold notR; rw [if_neg h]
  have h3:(k == 2)=false:=beq_eq_false_iff_ne.2 h
  clear hR h hv
  go_enter Tryz.func149,Tryz.ntmps149
  go_wp2_with fail
  refine bodyPost_ret (v:=.tuple #[.agg #[.int .i64 0,.int .i64 0,.string ⟨#[]⟩],.int .i64 9]) (by simp [results,Tryz.results149,go_sem]) rfl ⟨rfl,b_more (b_new _ _) _⟩
theorem ar_8 (a b:Vl) (w:World):Calls Tryz.prog 143 #[.func (.func 145) #[] #[],.agg #[.int .i64 a.k,.int .i64 a.n,.string a.s],.agg #[.int .i64 b.k,.int .i64 b.n,.string b.s]] w fun e w' => e=.returned (.tuple #[.agg #[.int .i64 (arR 8 a b).1.k,.int .i64 (arR 8 a b).1.n,.string (arR 8 a b).1.s],.int .i64 (arR 8 a b).2])/\Below w.heap.size w w':=by
 obtain ⟨k,n,s⟩:=a
 obtain ⟨j,m,t⟩:=b
 obtain ⟨R,hR⟩:∃ R,arR 8 ⟨k,n,s⟩ ⟨j,m,t⟩=R:=⟨_,rfl⟩
 rw [hR]
 have hz:¬ (k=1/\j=1)->R=(zeroV,9):=fun h => by rw [← hR]; unfold arR; rw [if_neg h]
 by_cases h:k=1
 ·subst h
  by_cases g:j=1
  ·subst g
   have hr:R=if (arN 8 n m).2=0 then (⟨1,(arN 8 n m).1,⟨#[]⟩⟩,0) else (zeroV,(arN 8 n m).2):=by rw [← hR]; unfold arR; rw [if_pos ⟨rfl,rfl⟩]
   have hc:∀ W,Calls Tryz.prog 145 #[.int .i64 n,.int .i64 m] W fun e w' => e=.returned (.tuple #[.int .i64 (arN 8 n m).1,.int .i64 (arN 8 n m).2])/\Below W.heap.size W w':=fun W => Num.add_any n m W
   obtain ⟨q,hq⟩:∃ q,(arN 8 n m).1=q:=⟨_,rfl⟩
   obtain ⟨z,hz2⟩:∃ z,(arN 8 n m).2=z:=⟨_,rfl⟩
   rw [hq,hz2] at hc hr
   have HC:=Lib.hid hc
   have HR:=Lib.hid hr
   clear hc hr hR hz hq hz2
   go_enter Tryz.func143,Tryz.ntmps143
   go_wp2_with fail
   refine (HC.out _).mono ?_; rintro e w1 ⟨rfl,hb1⟩
   obtain ⟨c1,d1⟩:=bcell hb1
   have z1:=zlt hb1
   have hb2:=b_then (b_then (b_then hb1))
   have hr:=HR.out
   by_cases h0:z=0
   ·rw [if_pos h0] at hr
    subst hr
    subst h0
    go_wp2_with fail
    refine bodyPost_ret (v:=.tuple #[.agg #[.int .i64 1,.int .i64 q,.string ⟨#[]⟩],.int .i64 0]) (by simp [results,Tryz.results143,go_sem, *]) rfl ⟨rfl,b_set3 hb2 _ (by omega) _ _ _⟩
   ·rw [if_neg h0] at hr
    subst hr
    have t0:(z == 0)=false:=beq_eq_false_iff_ne.2 h0
    go_wp2_with fail
    refine bodyPost_ret (v:=.tuple #[.agg #[.int .i64 0,.int .i64 0,.string ⟨#[]⟩],.int .i64 z]) (by simp [results,Tryz.results143,go_sem, *]) rfl ⟨rfl,b_set3 hb2 _ (by omega) _ _ _⟩
  ·obtain rfl:=hz (fun h => g h.2)
   have h3:(j == 1)=false:=beq_eq_false_iff_ne.2 g
   clear hR hz g
   go_enter Tryz.func143,Tryz.ntmps143
   go_wp2_with fail
   refine bodyPost_ret (v:=.tuple #[.agg #[.int .i64 0,.int .i64 0,.string ⟨#[]⟩],.int .i64 9]) (by simp [results,Tryz.results143,go_sem]) rfl ⟨rfl,b_more (b_more (b_new _ _) _) _⟩
 ·obtain rfl:=hz (fun g => h g.1)
  have h3:(k == 1)=false:=beq_eq_false_iff_ne.2 h
  clear hR hz h
  go_enter Tryz.func143,Tryz.ntmps143
  go_wp2_with fail
  refine bodyPost_ret (v:=.tuple #[.agg #[.int .i64 0,.int .i64 0,.string ⟨#[]⟩],.int .i64 9]) (by simp [results,Tryz.results143,go_sem]) rfl ⟨rfl,b_more (b_more (b_new _ _) _) _⟩
theorem ar_9 (a b:Vl) (w:World):Calls Tryz.prog 143 #[.func (.func 144) #[] #[],.agg #[.int .i64 a.k,.int .i64 a.n,.string a.s],.agg #[.int .i64 b.k,.int .i64 b.n,.string b.s]] w fun e w' => e=.returned (.tuple #[.agg #[.int .i64 (arR 9 a b).1.k,.int .i64 (arR 9 a b).1.n,.string (arR 9 a b).1.s],.int .i64 (arR 9 a b).2])/\Below w.heap.size w w':=by
 obtain ⟨k,n,s⟩:=a
 obtain ⟨j,m,t⟩:=b
 obtain ⟨R,hR⟩:∃ R,arR 9 ⟨k,n,s⟩ ⟨j,m,t⟩=R:=⟨_,rfl⟩
 rw [hR]
 have hz:¬ (k=1/\j=1)->R=(zeroV,9):=fun h => by rw [← hR]; unfold arR; rw [if_neg h]
 by_cases h:k=1
 ·subst h
  by_cases g:j=1
  ·subst g
   have hr:R=if (arN 9 n m).2=0 then (⟨1,(arN 9 n m).1,⟨#[]⟩⟩,0) else (zeroV,(arN 9 n m).2):=by rw [← hR]; unfold arR; rw [if_pos ⟨rfl,rfl⟩]
   have hc:∀ W,Calls Tryz.prog 144 #[.int .i64 n,.int .i64 m] W fun e w' => e=.returned (.tuple #[.int .i64 (arN 9 n m).1,.int .i64 (arN 9 n m).2])/\Below W.heap.size W w':=fun W => Num.sub_any n m W
   obtain ⟨q,hq⟩:∃ q,(arN 9 n m).1=q:=⟨_,rfl⟩
   obtain ⟨z,hz2⟩:∃ z,(arN 9 n m).2=z:=⟨_,rfl⟩
   rw [hq,hz2] at hc hr
   have HC:=Lib.hid hc
   have HR:=Lib.hid hr
   clear hc hr hR hz hq hz2
   go_enter Tryz.func143,Tryz.ntmps143
   go_wp2_with fail
   refine (HC.out _).mono ?_; rintro e w1 ⟨rfl,hb1⟩
   obtain ⟨c1,d1⟩:=bcell hb1
   have z1:=zlt hb1
   have hb2:=b_then (b_then (b_then hb1))
   have hr:=HR.out
   by_cases h0:z=0
   ·rw [if_pos h0] at hr
    subst hr
    subst h0
    go_wp2_with fail
    refine bodyPost_ret (v:=.tuple #[.agg #[.int .i64 1,.int .i64 q,.string ⟨#[]⟩],.int .i64 0]) (by simp [results,Tryz.results143,go_sem, *]) rfl ⟨rfl,b_set3 hb2 _ (by omega) _ _ _⟩
   ·rw [if_neg h0] at hr
    subst hr
    have t0:(z == 0)=false:=beq_eq_false_iff_ne.2 h0
    go_wp2_with fail
    refine bodyPost_ret (v:=.tuple #[.agg #[.int .i64 0,.int .i64 0,.string ⟨#[]⟩],.int .i64 z]) (by simp [results,Tryz.results143,go_sem, *]) rfl ⟨rfl,b_set3 hb2 _ (by omega) _ _ _⟩
  ·obtain rfl:=hz (fun h => g h.2)
   have h3:(j == 1)=false:=beq_eq_false_iff_ne.2 g
   clear hR hz g
   go_enter Tryz.func143,Tryz.ntmps143
   go_wp2_with fail
   refine bodyPost_ret (v:=.tuple #[.agg #[.int .i64 0,.int .i64 0,.string ⟨#[]⟩],.int .i64 9]) (by simp [results,Tryz.results143,go_sem]) rfl ⟨rfl,b_more (b_more (b_new _ _) _) _⟩
 ·obtain rfl:=hz (fun g => h g.1)
  have h3:(k == 1)=false:=beq_eq_false_iff_ne.2 h
  clear hR hz h
  go_enter Tryz.func143,Tryz.ntmps143
  go_wp2_with fail
  refine bodyPost_ret (v:=.tuple #[.agg #[.int .i64 0,.int .i64 0,.string ⟨#[]⟩],.int .i64 9]) (by simp [results,Tryz.results143,go_sem]) rfl ⟨rfl,b_more (b_more (b_new _ _) _) _⟩
theorem ar_5 (a b:Vl) (w:World):Calls Tryz.prog 143 #[.func (.func 146) #[] #[],.agg #[.int .i64 a.k,.int .i64 a.n,.string a.s],.agg #[.int .i64 b.k,.int .i64 b.n,.string b.s]] w fun e w' => e=.returned (.tuple #[.agg #[.int .i64 (arR 5 a b).1.k,.int .i64 (arR 5 a b).1.n,.string (arR 5 a b).1.s],.int .i64 (arR 5 a b).2])/\Below w.heap.size w w':=by
 obtain ⟨k,n,s⟩:=a
 obtain ⟨j,m,t⟩:=b
 obtain ⟨R,hR⟩:∃ R,arR 5 ⟨k,n,s⟩ ⟨j,m,t⟩=R:=⟨_,rfl⟩
 rw [hR]
 have hz:¬ (k=1/\j=1)->R=(zeroV,9):=fun h => by rw [← hR]; unfold arR; rw [if_neg h]
 by_cases h:k=1
 ·subst h
  by_cases g:j=1
  ·subst g
   have hr:R=if (arN 5 n m).2=0 then (⟨1,(arN 5 n m).1,⟨#[]⟩⟩,0) else (zeroV,(arN 5 n m).2):=by rw [← hR]; unfold arR; rw [if_pos ⟨rfl,rfl⟩]
   have hc:∀ W,Calls Tryz.prog 146 #[.int .i64 n,.int .i64 m] W fun e w' => e=.returned (.tuple #[.int .i64 (arN 5 n m).1,.int .i64 (arN 5 n m).2])/\Below W.heap.size W w':=fun W => Num.mul_any n m W
   obtain ⟨q,hq⟩:∃ q,(arN 5 n m).1=q:=⟨_,rfl⟩
   obtain ⟨z,hz2⟩:∃ z,(arN 5 n m).2=z:=⟨_,rfl⟩
   rw [hq,hz2] at hc hr
   have HC:=Lib.hid hc
   have HR:=Lib.hid hr
   clear hc hr hR hz hq hz2
   go_enter Tryz.func143,Tryz.ntmps143
   go_wp2_with fail
   refine (HC.out _).mono ?_; rintro e w1 ⟨rfl,hb1⟩
   obtain ⟨c1,d1⟩:=bcell hb1
   have z1:=zlt hb1
   have hb2:=b_then (b_then (b_then hb1))
   have hr:=HR.out
   by_cases h0:z=0
   ·rw [if_pos h0] at hr
    subst hr
    subst h0
    go_wp2_with fail
    refine bodyPost_ret (v:=.tuple #[.agg #[.int .i64 1,.int .i64 q,.string ⟨#[]⟩],.int .i64 0]) (by simp [results,Tryz.results143,go_sem, *]) rfl ⟨rfl,b_set3 hb2 _ (by omega) _ _ _⟩
   ·rw [if_neg h0] at hr
    subst hr
    have t0:(z == 0)=false:=beq_eq_false_iff_ne.2 h0
    go_wp2_with fail
    refine bodyPost_ret (v:=.tuple #[.agg #[.int .i64 0,.int .i64 0,.string ⟨#[]⟩],.int .i64 z]) (by simp [results,Tryz.results143,go_sem, *]) rfl ⟨rfl,b_set3 hb2 _ (by omega) _ _ _⟩
  ·obtain rfl:=hz (fun h => g h.2)
   have h3:(j == 1)=false:=beq_eq_false_iff_ne.2 g
   clear hR hz g
   go_enter Tryz.func143,Tryz.ntmps143
   go_wp2_with fail
   refine bodyPost_ret (v:=.tuple #[.agg #[.int .i64 0,.int .i64 0,.string ⟨#[]⟩],.int .i64 9]) (by simp [results,Tryz.results143,go_sem]) rfl ⟨rfl,b_more (b_more (b_new _ _) _) _⟩
 ·obtain rfl:=hz (fun g => h g.1)
  have h3:(k == 1)=false:=beq_eq_false_iff_ne.2 h
  clear hR hz h
  go_enter Tryz.func143,Tryz.ntmps143
  go_wp2_with fail
  refine bodyPost_ret (v:=.tuple #[.agg #[.int .i64 0,.int .i64 0,.string ⟨#[]⟩],.int .i64 9]) (by simp [results,Tryz.results143,go_sem]) rfl ⟨rfl,b_more (b_more (b_new _ _) _) _⟩
theorem ar_6 (a b:Vl) (w:World):Calls Tryz.prog 143 #[.func (.func 147) #[] #[],.agg #[.int .i64 a.k,.int .i64 a.n,.string a.s],.agg #[.int .i64 b.k,.int .i64 b.n,.string b.s]] w fun e w' => e=.returned (.tuple #[.agg #[.int .i64 (arR 6 a b).1.k,.int .i64 (arR 6 a b).1.n,.string (arR 6 a b).1.s],.int .i64 (arR 6 a b).2])/\Below w.heap.size w w':=by
 obtain ⟨k,n,s⟩:=a
 obtain ⟨j,m,t⟩:=b
 obtain ⟨R,hR⟩:∃ R,arR 6 ⟨k,n,s⟩ ⟨j,m,t⟩=R:=⟨_,rfl⟩
 rw [hR]
 have hz:¬ (k=1/\j=1)->R=(zeroV,9):=fun h => by rw [← hR]; unfold arR; rw [if_neg h]
 by_cases h:k=1
 ·subst h
  by_cases g:j=1
  ·subst g
   have hr:R=if (arN 6 n m).2=0 then (⟨1,(arN 6 n m).1,⟨#[]⟩⟩,0) else (zeroV,(arN 6 n m).2):=by rw [← hR]; unfold arR; rw [if_pos ⟨rfl,rfl⟩]
   have hc:∀ W,Calls Tryz.prog 147 #[.int .i64 n,.int .i64 m] W fun e w' => e=.returned (.tuple #[.int .i64 (arN 6 n m).1,.int .i64 (arN 6 n m).2])/\Below W.heap.size W w':=fun W => Num.div_any n m W
   obtain ⟨q,hq⟩:∃ q,(arN 6 n m).1=q:=⟨_,rfl⟩
   obtain ⟨z,hz2⟩:∃ z,(arN 6 n m).2=z:=⟨_,rfl⟩
   rw [hq,hz2] at hc hr
   have HC:=Lib.hid hc
   have HR:=Lib.hid hr
   clear hc hr hR hz hq hz2
   go_enter Tryz.func143,Tryz.ntmps143
   go_wp2_with fail
   refine (HC.out _).mono ?_; rintro e w1 ⟨rfl,hb1⟩
   obtain ⟨c1,d1⟩:=bcell hb1
   have z1:=zlt hb1
   have hb2:=b_then (b_then (b_then hb1))
   have hr:=HR.out
   by_cases h0:z=0
   ·rw [if_pos h0] at hr
    subst hr
    subst h0
    go_wp2_with fail
    refine bodyPost_ret (v:=.tuple #[.agg #[.int .i64 1,.int .i64 q,.string ⟨#[]⟩],.int .i64 0]) (by simp [results,Tryz.results143,go_sem, *]) rfl ⟨rfl,b_set3 hb2 _ (by omega) _ _ _⟩
   ·rw [if_neg h0] at hr
    subst hr
    have t0:(z == 0)=false:=beq_eq_false_iff_ne.2 h0
    go_wp2_with fail
    refine bodyPost_ret (v:=.tuple #[.agg #[.int .i64 0,.int .i64 0,.string ⟨#[]⟩],.int .i64 z]) (by simp [results,Tryz.results143,go_sem, *]) rfl ⟨rfl,b_set3 hb2 _ (by omega) _ _ _⟩
  ·obtain rfl:=hz (fun h => g h.2)
   have h3:(j == 1)=false:=beq_eq_false_iff_ne.2 g
   clear hR hz g
   go_enter Tryz.func143,Tryz.ntmps143
   go_wp2_with fail
   refine bodyPost_ret (v:=.tuple #[.agg #[.int .i64 0,.int .i64 0,.string ⟨#[]⟩],.int .i64 9]) (by simp [results,Tryz.results143,go_sem]) rfl ⟨rfl,b_more (b_more (b_new _ _) _) _⟩
 ·obtain rfl:=hz (fun g => h g.1)
  have h3:(k == 1)=false:=beq_eq_false_iff_ne.2 h
  clear hR hz h
  go_enter Tryz.func143,Tryz.ntmps143
  go_wp2_with fail
  refine bodyPost_ret (v:=.tuple #[.agg #[.int .i64 0,.int .i64 0,.string ⟨#[]⟩],.int .i64 9]) (by simp [results,Tryz.results143,go_sem]) rfl ⟨rfl,b_more (b_more (b_new _ _) _) _⟩
theorem ar_7 (a b:Vl) (w:World):Calls Tryz.prog 143 #[.func (.func 148) #[] #[],.agg #[.int .i64 a.k,.int .i64 a.n,.string a.s],.agg #[.int .i64 b.k,.int .i64 b.n,.string b.s]] w fun e w' => e=.returned (.tuple #[.agg #[.int .i64 (arR 7 a b).1.k,.int .i64 (arR 7 a b).1.n,.string (arR 7 a b).1.s],.int .i64 (arR 7 a b).2])/\Below w.heap.size w w':=by
 obtain ⟨k,n,s⟩:=a
 obtain ⟨j,m,t⟩:=b
 obtain ⟨R,hR⟩:∃ R,arR 7 ⟨k,n,s⟩ ⟨j,m,t⟩=R:=⟨_,rfl⟩
 rw [hR]
 have hz:¬ (k=1/\j=1)->R=(zeroV,9):=fun h => by rw [← hR]; unfold arR; rw [if_neg h]
 by_cases h:k=1
 ·subst h
  by_cases g:j=1
  ·subst g
   have hr:R=if (arN 7 n m).2=0 then (⟨1,(arN 7 n m).1,⟨#[]⟩⟩,0) else (zeroV,(arN 7 n m).2):=by rw [← hR]; unfold arR; rw [if_pos ⟨rfl,rfl⟩]
   have hc:∀ W,Calls Tryz.prog 148 #[.int .i64 n,.int .i64 m] W fun e w' => e=.returned (.tuple #[.int .i64 (arN 7 n m).1,.int .i64 (arN 7 n m).2])/\Below W.heap.size W w':=fun W => Num.mod_any n m W
   obtain ⟨q,hq⟩:∃ q,(arN 7 n m).1=q:=⟨_,rfl⟩
   obtain ⟨z,hz2⟩:∃ z,(arN 7 n m).2=z:=⟨_,rfl⟩
   rw [hq,hz2] at hc hr
   have HC:=Lib.hid hc
   have HR:=Lib.hid hr
   clear hc hr hR hz hq hz2
   go_enter Tryz.func143,Tryz.ntmps143
   go_wp2_with fail
   refine (HC.out _).mono ?_; rintro e w1 ⟨rfl,hb1⟩
   obtain ⟨c1,d1⟩:=bcell hb1
   have z1:=zlt hb1
   have hb2:=b_then (b_then (b_then hb1))
   have hr:=HR.out
   by_cases h0:z=0
   ·rw [if_pos h0] at hr
    subst hr
    subst h0
    go_wp2_with fail
    refine bodyPost_ret (v:=.tuple #[.agg #[.int .i64 1,.int .i64 q,.string ⟨#[]⟩],.int .i64 0]) (by simp [results,Tryz.results143,go_sem, *]) rfl ⟨rfl,b_set3 hb2 _ (by omega) _ _ _⟩
   ·rw [if_neg h0] at hr
    subst hr
    have t0:(z == 0)=false:=beq_eq_false_iff_ne.2 h0
    go_wp2_with fail
    refine bodyPost_ret (v:=.tuple #[.agg #[.int .i64 0,.int .i64 0,.string ⟨#[]⟩],.int .i64 z]) (by simp [results,Tryz.results143,go_sem, *]) rfl ⟨rfl,b_set3 hb2 _ (by omega) _ _ _⟩
  ·obtain rfl:=hz (fun h => g h.2)
   have h3:(j == 1)=false:=beq_eq_false_iff_ne.2 g
   clear hR hz g
   go_enter Tryz.func143,Tryz.ntmps143
   go_wp2_with fail
   refine bodyPost_ret (v:=.tuple #[.agg #[.int .i64 0,.int .i64 0,.string ⟨#[]⟩],.int .i64 9]) (by simp [results,Tryz.results143,go_sem]) rfl ⟨rfl,b_more (b_more (b_new _ _) _) _⟩
 ·obtain rfl:=hz (fun g => h g.1)
  have h3:(k == 1)=false:=beq_eq_false_iff_ne.2 h
  clear hR hz h
  go_enter Tryz.func143,Tryz.ntmps143
  go_wp2_with fail
  refine bodyPost_ret (v:=.tuple #[.agg #[.int .i64 0,.int .i64 0,.string ⟨#[]⟩],.int .i64 9]) (by simp [results,Tryz.results143,go_sem]) rfl ⟨rfl,b_more (b_more (b_new _ _) _) _⟩
theorem comparison_any (op:Int) (hop:11<=op/\op<=14) (a b:Vl) (ha:knownB a.k a.n a.s.data.toList=true) (hb:knownB b.k b.n b.s.data.toList=true) (w:World):Calls Tryz.prog 152 #[.int .i64 op,.agg #[.int .i64 a.k,.int .i64 a.n,.string a.s],.agg #[.int .i64 b.k,.int .i64 b.n,.string b.s]] w fun e w' => e=.returned (.tuple #[.agg #[.int .i64 (cmpR op a b).1.k,.int .i64 (cmpR op a b).1.n,.string (cmpR op a b).1.s],.int .i64 (cmpR op a b).2])/\Below w.heap.size w w':=by
 obtain ⟨k,n,s⟩:=a
 obtain ⟨j,m,t⟩:=b
 simp only at ha hb
 obtain ⟨R,hR⟩:∃ R,cmpR op ⟨k,n,s⟩ ⟨j,m,t⟩=R:=⟨_,rfl⟩
 rw [hR]
 by_cases g:k=j
 ·subst g
  have hc:=fun W => ValCmp.compare_good k n m s t W ha hb
  have ho:ValCmp.ordV k n m s.data.toList t.data.toList=ordVl ⟨k,n,s⟩ ⟨k,m,t⟩:=rfl
  rw [ho] at hc
  have hr:R=(tru (cmpB op (ordVl ⟨k,n,s⟩ ⟨k,m,t⟩)),0):=by rw [← hR]; unfold cmpR; rw [if_pos rfl]
  obtain ⟨o,hoo⟩:∃ o,ordVl ⟨k,n,s⟩ ⟨k,m,t⟩=o:=⟨_,rfl⟩
  rw [hoo] at hc hr
  have HC:=Lib.hid hc
  clear hR hc ho hoo ha hb
  have hp:op=11 ∨ op=12 ∨ op=13 ∨ op=14:=by omega
  have close:∀ (q:Bool),cmpB op o=q->R=(⟨2,bitI q,⟨#[]⟩⟩,0):=fun q hq => by rw [hr,hq]; rfl
  have HX:=Lib.hid close
  clear hr close hop
  have he:=HX.out _ rfl
  subst he
  clear HX
  rcases hp with rfl | rfl | rfl | rfl
  ·go_enter Tryz.func152,Tryz.ntmps152
   go_wp2_with fail
   refine (HC.out _).mono ?_; rintro e w1 ⟨rfl,hb1⟩
   obtain ⟨c1,d1⟩:=bcell hb1
   have z1:=zlt hb1
   go_wp2_with (go_at_call 119; refine (truth_any _ _).mono ?_; rintro e w2 ⟨rfl,hb3⟩; have hb4:=b_trans hb1 hb3; clear c1 d1 z1; obtain ⟨c1,d1⟩:=bcell hb4; have z1:=zlt hb4)
   refine bodyPost_ret (v:=.tuple #[.agg #[.int .i64 2,.int .i64 (bitI (cmpB 11 o)),.string ⟨#[]⟩],.int .i64 0]) (by simp [results,Tryz.results152,go_sem,c1,cmpB]) rfl ⟨rfl,b_set3 (b_then (b_then (b_then hb4))) _ (by omega) _ _ _⟩
  ·go_enter Tryz.func152,Tryz.ntmps152
   go_wp2_with fail
   refine (HC.out _).mono ?_; rintro e w1 ⟨rfl,hb1⟩
   obtain ⟨c1,d1⟩:=bcell hb1
   have z1:=zlt hb1
   go_wp2_with (go_at_call 119; refine (truth_any _ _).mono ?_; rintro e w2 ⟨rfl,hb3⟩; have hb4:=b_trans hb1 hb3; clear c1 d1 z1; obtain ⟨c1,d1⟩:=bcell hb4; have z1:=zlt hb4)
   refine bodyPost_ret (v:=.tuple #[.agg #[.int .i64 2,.int .i64 (bitI (cmpB 12 o)),.string ⟨#[]⟩],.int .i64 0]) (by simp [results,Tryz.results152,go_sem,c1,cmpB]) rfl ⟨rfl,b_set3 (b_then (b_then (b_then hb4))) _ (by omega) _ _ _⟩
  ·go_enter Tryz.func152,Tryz.ntmps152
   go_wp2_with fail
   refine (HC.out _).mono ?_; rintro e w1 ⟨rfl,hb1⟩
   obtain ⟨c1,d1⟩:=bcell hb1
   have z1:=zlt hb1
   go_wp2_with (go_at_call 119; refine (truth_any _ _).mono ?_; rintro e w2 ⟨rfl,hb3⟩; have hb4:=b_trans hb1 hb3; clear c1 d1 z1; obtain ⟨c1,d1⟩:=bcell hb4; have z1:=zlt hb4)
   refine bodyPost_ret (v:=.tuple #[.agg #[.int .i64 2,.int .i64 (bitI (cmpB 13 o)),.string ⟨#[]⟩],.int .i64 0]) (by simp [results,Tryz.results152,go_sem,c1,cmpB]) rfl ⟨rfl,b_set3 (b_then (b_then (b_then hb4))) _ (by omega) _ _ _⟩
  ·go_enter Tryz.func152,Tryz.ntmps152
   go_wp2_with fail
   refine (HC.out _).mono ?_; rintro e w1 ⟨rfl,hb1⟩
   obtain ⟨c1,d1⟩:=bcell hb1
   have z1:=zlt hb1
   go_wp2_with (go_at_call 119; refine (truth_any _ _).mono ?_; rintro e w2 ⟨rfl,hb3⟩; have hb4:=b_trans hb1 hb3; clear c1 d1 z1; obtain ⟨c1,d1⟩:=bcell hb4; have z1:=zlt hb4)
   refine bodyPost_ret (v:=.tuple #[.agg #[.int .i64 2,.int .i64 (bitI (cmpB 14 o)),.string ⟨#[]⟩],.int .i64 0]) (by simp [results,Tryz.results152,go_sem,c1,cmpB]) rfl ⟨rfl,b_set3 (b_then (b_then (b_then hb4))) _ (by omega) _ _ _⟩
 ·have hc:=fun W => ValCmp.compare_bad k n j m s t W (fun h => g h.2.2)
  obtain rfl:R=(zeroV,9):=by rw [← hR]; unfold cmpR; rw [if_neg g]
  have HC:=Lib.hid hc
  clear hc hR g ha hb hop
  go_enter Tryz.func152,Tryz.ntmps152
  go_wp2_with fail
  refine (HC.out _).mono ?_; rintro e w1 ⟨rfl,hb1⟩
  obtain ⟨c1,d1⟩:=bcell hb1
  have z1:=zlt hb1
  have hb2:=b_then (b_then (b_then hb1))
  go_wp2_with fail
  refine bodyPost_ret (v:=.tuple #[.agg #[.int .i64 0,.int .i64 0,.string ⟨#[]⟩],.int .i64 9]) (by simp [results,Tryz.results152,go_sem,c1]) rfl ⟨rfl,b_set3 hb2 _ (by omega) _ _ _⟩
end Ev
namespace EvC
open Go.RowKit
open NumM ValM StrM ExM TyM EvM Kit Ev ExL
set_option linter.unusedVariables false
def VAt (w:World) (a:Addr) (v:Vl):Prop :=
 w.cell? a=some (.int .i64 v.k)/\w.cell? ⟨a.block,a.off + 1,none⟩=some (.int .i64 v.n)/\w.cell? ⟨a.block,a.off + 2,none⟩=some (.string v.s)
theorem VAt.below {w w':World} {a:Addr} {v:Vl} (h:VAt w a v) (hb:Below w.heap.size w w'):VAt w' a v:=by
 have hl:=cell_lt' h.1
 exact ⟨(hb.cell (p:=a) hl).trans h.1,(hb.cell (p:=⟨a.block,a.off + 1,none⟩) hl).trans h.2.1,(hb.cell (p:=⟨a.block,a.off + 2,none⟩) hl).trans h.2.2⟩
def Vals (w:World) (b:Nat) (vs:List Vl):Prop:=∀ i (h:i < vs.length),VAt w ⟨b,i * 3,none⟩ vs[i]
theorem Vals.below {w w':World} {b:Nat} {vs:List Vl} (h:Vals w b vs) (hb:Below w.heap.size w w'):Vals w' b vs:=fun i hi => (h i hi).below hb
theorem over {W:World} {p:Addr} {v:Value} (h:W.cell? p=some v):(∀ o,(W.alloc o).cell? p=some v)/\(∀ o o',((W.alloc o).alloc o').cell? p=some v)/\(∀ o o' o'',(((W.alloc o).alloc o').alloc o'').cell? p=some v):=by
 have hl:=cell_lt' h
 exact ⟨fun o => ((b_new W o).cell (p:=p) hl).trans h,fun o o' => ((b_more (b_new W o) o').cell (p:=p) hl).trans h,fun o o' o'' => ((b_more (b_more (b_new W o) o') o'').cell (p:=p) hl).trans h⟩
theorem zero3 {w w1:World} {o o':Obj} (hb:Below (((w.alloc (.cells #[.int .i64 0,.int .i64 0,.string ⟨#[]⟩] 38)).alloc o).alloc o').heap.size (((w.alloc (.cells #[.int .i64 0,.int .i64 0,.string ⟨#[]⟩] 38)).alloc o).alloc o') w1) :
  w1.cell? ⟨w.heap.size,0,none⟩=some (.int .i64 0)/\w1.cell? ⟨w.heap.size,1,none⟩=some (.int .i64 0)/\w1.cell? ⟨w.heap.size,2,none⟩=some (.string ⟨#[]⟩):=by
 have h0:(w.alloc (.cells #[.int .i64 0,.int .i64 0,.string ⟨#[]⟩] 38)).cell? ⟨w.heap.size,0,none⟩=some (.int .i64 0):=by simp [go_sem]
 have h1:(w.alloc (.cells #[.int .i64 0,.int .i64 0,.string ⟨#[]⟩] 38)).cell? ⟨w.heap.size,1,none⟩=some (.int .i64 0):=by simp [go_sem]
 have h2:(w.alloc (.cells #[.int .i64 0,.int .i64 0,.string ⟨#[]⟩] 38)).cell? ⟨w.heap.size,2,none⟩=some (.string ⟨#[]⟩):=by simp [go_sem]
 exact ⟨(hb.cell (p:=⟨w.heap.size,0,none⟩) (by simp; omega)).trans ((over h0).2.1 _ _),(hb.cell (p:=⟨w.heap.size,1,none⟩) (by simp; omega)).trans ((over h1).2.1 _ _),(hb.cell (p:=⟨w.heap.size,2,none⟩) (by simp; omega)).trans ((over h2).2.1 _ _)⟩
theorem comp_3 (a b:Vl) (g c:Nat) (w:World) (h:Vals w g [b]) :
  Calls Tryz.prog 120 #[.int .i64 3,.slice (some ⟨g,0,none⟩) 1 c] w fun e w' => e=.returned (.tuple #[.agg #[.int .i64 (compR 3 a b).1.k,.int .i64 (compR 3 a b).1.n,.string (compR 3 a b).1.s],.int .i64 (compR 3 a b).2])/\Below w.heap.size w w':=by
 obtain ⟨h3,h4,h5⟩:=h 0 (by simp)
 have hc:∀ W,Calls Tryz.prog 143 _ W _:=fun W => ar_9 ⟨1,0,⟨#[]⟩⟩ b W
 have hq:compR 3 a b=arR 9 ⟨1,0,⟨#[]⟩⟩ b:=rfl
 rw [← hq] at hc
 obtain ⟨R,hR⟩:∃ R,compR 3 a b=R:=⟨_,rfl⟩
 rw [hR] at hc ⊢
 obtain ⟨⟨rk,rn,rs⟩,re⟩:=R
 obtain ⟨k,n,s⟩:=a
 obtain ⟨j,m,t⟩:=b
 simp only [List.getElem_cons_zero,Nat.zero_mul,Nat.zero_add] at h3 h4 h5 hc ⊢
 have HC:=Lib.hid hc
 clear hc hR h
 obtain ⟨p3,q3,r3⟩:=over h3
 obtain ⟨p4,q4,r4⟩:=over h4
 obtain ⟨p5,q5,r5⟩:=over h5
 go_enter Tryz.func120,Tryz.ntmps120
 go_wp2_with fail
 go_region
 all_goals (clear p3 q3 r3 h3 p4 q4 r4 h4 p5 q5 r5 h5; go_wp2_with fail; refine (HC.out _).mono ?_; rintro e w1 ⟨rfl,hb0⟩; have hb1:=b_undrew hb0; have hx:=zero3 hb1; obtain ⟨x0,x1,x2⟩:=hx; obtain ⟨c1,d1⟩:=bcell hb1; have z1:=zlt hb1; have hb2:Below w.heap.size w w1:=b_then (b_then (b_then hb1)); go_wp2_with fail; refine bodyPost_ret (v:=.tuple #[.agg #[.int .i64 rk,.int .i64 rn,.string rs],.int .i64 re]) (by simp [results,Tryz.results120,go_sem,x0,x1,x2]) rfl ⟨rfl,b_set3 hb2 _ (by omega) _ _ _⟩)
theorem comp_4 (a b:Vl) (g c:Nat) (w:World) (hb:b.ok) (h:Vals w g [b]) :
  Calls Tryz.prog 120 #[.int .i64 4,.slice (some ⟨g,0,none⟩) 1 c] w fun e w' => e=.returned (.tuple #[.agg #[.int .i64 (compR 4 a b).1.k,.int .i64 (compR 4 a b).1.n,.string (compR 4 a b).1.s],.int .i64 (compR 4 a b).2])/\Below w.heap.size w w':=by
 obtain ⟨h3,h4,h5⟩:=h 0 (by simp)
 have hc:=fun W => negation_any b hb W
 have hq:compR 4 a b=notR b:=rfl
 rw [← hq] at hc
 clear hb
 obtain ⟨R,hR⟩:∃ R,compR 4 a b=R:=⟨_,rfl⟩
 rw [hR] at hc ⊢
 obtain ⟨⟨rk,rn,rs⟩,re⟩:=R
 obtain ⟨k,n,s⟩:=a
 obtain ⟨j,m,t⟩:=b
 simp only [List.getElem_cons_zero,Nat.zero_mul,Nat.zero_add] at h3 h4 h5 hc ⊢
 have HC:=Lib.hid hc
 clear hc hR h
 obtain ⟨p3,q3,r3⟩:=over h3
 obtain ⟨p4,q4,r4⟩:=over h4
 obtain ⟨p5,q5,r5⟩:=over h5
 go_enter Tryz.func120,Tryz.ntmps120
 go_wp2_with fail
 go_region
 all_goals (clear p3 q3 r3 h3 p4 q4 r4 h4 p5 q5 r5 h5; go_wp2_with fail; refine (HC.out _).mono ?_; rintro e w1 ⟨rfl,hb0⟩; have hb1:=b_undrew hb0; have hx:=zero3 hb1; obtain ⟨x0,x1,x2⟩:=hx; obtain ⟨c1,d1⟩:=bcell hb1; have z1:=zlt hb1; have hb2:Below w.heap.size w w1:=b_then (b_then (b_then hb1)); go_wp2_with fail; refine bodyPost_ret (v:=.tuple #[.agg #[.int .i64 rk,.int .i64 rn,.string rs],.int .i64 re]) (by simp [results,Tryz.results120,go_sem,x0,x1,x2]) rfl ⟨rfl,b_set3 hb2 _ (by omega) _ _ _⟩)
theorem comp_18 (a b:Vl) (g c:Nat) (w:World) (hb:b.s.size<=40) (h:Vals w g [b]) :
  Calls Tryz.prog 120 #[.int .i64 18,.slice (some ⟨g,0,none⟩) 1 c] w fun e w' => e=.returned (.tuple #[.agg #[.int .i64 (compR 18 a b).1.k,.int .i64 (compR 18 a b).1.n,.string (compR 18 a b).1.s],.int .i64 (compR 18 a b).2])/\Below w.heap.size w w':=by
 obtain ⟨h3,h4,h5⟩:=h 0 (by simp)
 have hc:=fun W => length_any b hb W
 have hq:compR 18 a b=lenR b:=rfl
 rw [← hq] at hc
 clear hb
 obtain ⟨R,hR⟩:∃ R,compR 18 a b=R:=⟨_,rfl⟩
 rw [hR] at hc ⊢
 obtain ⟨⟨rk,rn,rs⟩,re⟩:=R
 obtain ⟨k,n,s⟩:=a
 obtain ⟨j,m,t⟩:=b
 simp only [List.getElem_cons_zero,Nat.zero_mul,Nat.zero_add] at h3 h4 h5 hc ⊢
 have HC:=Lib.hid hc
 clear hc hR h
 obtain ⟨p3,q3,r3⟩:=over h3
 obtain ⟨p4,q4,r4⟩:=over h4
 obtain ⟨p5,q5,r5⟩:=over h5
 go_enter Tryz.func120,Tryz.ntmps120
 go_wp2_with fail
 go_region
 all_goals (clear p3 q3 r3 h3 p4 q4 r4 h4 p5 q5 r5 h5; go_wp2_with fail; refine (HC.out _).mono ?_; rintro e w1 ⟨rfl,hb0⟩; have hb1:=b_undrew hb0; have hx:=zero3 hb1; obtain ⟨x0,x1,x2⟩:=hx; obtain ⟨c1,d1⟩:=bcell hb1; have z1:=zlt hb1; have hb2:Below w.heap.size w w1:=b_then (b_then (b_then hb1)); go_wp2_with fail; refine bodyPost_ret (v:=.tuple #[.agg #[.int .i64 rk,.int .i64 rn,.string rs],.int .i64 re]) (by simp [results,Tryz.results120,go_sem,x0,x1,x2]) rfl ⟨rfl,b_set3 hb2 _ (by omega) _ _ _⟩)
theorem comp_5 (a b:Vl) (g c:Nat) (w:World) (h:Vals w g [a,b]) :
  Calls Tryz.prog 120 #[.int .i64 5,.slice (some ⟨g,0,none⟩) 2 c] w fun e w' => e=.returned (.tuple #[.agg #[.int .i64 (compR 5 a b).1.k,.int .i64 (compR 5 a b).1.n,.string (compR 5 a b).1.s],.int .i64 (compR 5 a b).2])/\Below w.heap.size w w':=by
 obtain ⟨h0,h1,h2⟩:=h 0 (by simp)
 obtain ⟨h3,h4,h5⟩:=h 1 (by simp)
 have hc:=fun W => ar_5 a b W
 have hq:compR 5 a b=arR 5 a b:=rfl
 rw [← hq] at hc
 obtain ⟨R,hR⟩:∃ R,compR 5 a b=R:=⟨_,rfl⟩
 rw [hR] at hc ⊢
 obtain ⟨⟨rk,rn,rs⟩,re⟩:=R
 obtain ⟨k,n,s⟩:=a
 obtain ⟨j,m,t⟩:=b
 simp only [List.getElem_cons_zero,List.getElem_cons_succ,Nat.zero_mul,Nat.one_mul,Nat.zero_add,Nat.reduceAdd] at h0 h1 h2 h3 h4 h5 hc ⊢
 have HC:=Lib.hid hc
 clear hc hR h
 obtain ⟨p0,q0,r0⟩:=over h0
 obtain ⟨p1,q1,r1⟩:=over h1
 obtain ⟨p2,q2,r2⟩:=over h2
 obtain ⟨p3,q3,r3⟩:=over h3
 obtain ⟨p4,q4,r4⟩:=over h4
 obtain ⟨p5,q5,r5⟩:=over h5
 go_enter Tryz.func120,Tryz.ntmps120
 go_wp2_with fail
 go_region
 all_goals (clear p0 q0 r0 h0 p1 q1 r1 h1 p2 q2 r2 h2 p3 q3 r3 h3 p4 q4 r4 h4 p5 q5 r5 h5; go_wp2_with fail; refine (HC.out _).mono ?_; rintro e w1 ⟨rfl,hb0⟩; have hb1:=b_undrew hb0; have hx:=zero3 hb1; obtain ⟨x0,x1,x2⟩:=hx; obtain ⟨c1,d1⟩:=bcell hb1; have z1:=zlt hb1; have hb2:Below w.heap.size w w1:=b_then (b_then (b_then hb1)); go_wp2_with fail; refine bodyPost_ret (v:=.tuple #[.agg #[.int .i64 rk,.int .i64 rn,.string rs],.int .i64 re]) (by simp [results,Tryz.results120,go_sem,x0,x1,x2]) rfl ⟨rfl,b_set3 hb2 _ (by omega) _ _ _⟩)
theorem comp_6 (a b:Vl) (g c:Nat) (w:World) (h:Vals w g [a,b]) :
  Calls Tryz.prog 120 #[.int .i64 6,.slice (some ⟨g,0,none⟩) 2 c] w fun e w' => e=.returned (.tuple #[.agg #[.int .i64 (compR 6 a b).1.k,.int .i64 (compR 6 a b).1.n,.string (compR 6 a b).1.s],.int .i64 (compR 6 a b).2])/\Below w.heap.size w w':=by
 obtain ⟨h0,h1,h2⟩:=h 0 (by simp)
 obtain ⟨h3,h4,h5⟩:=h 1 (by simp)
 have hc:=fun W => ar_6 a b W
 have hq:compR 6 a b=arR 6 a b:=rfl
 rw [← hq] at hc
 obtain ⟨R,hR⟩:∃ R,compR 6 a b=R:=⟨_,rfl⟩
 rw [hR] at hc ⊢
 obtain ⟨⟨rk,rn,rs⟩,re⟩:=R
 obtain ⟨k,n,s⟩:=a
 obtain ⟨j,m,t⟩:=b
 simp only [List.getElem_cons_zero,List.getElem_cons_succ,Nat.zero_mul,Nat.one_mul,Nat.zero_add,Nat.reduceAdd] at h0 h1 h2 h3 h4 h5 hc ⊢
 have HC:=Lib.hid hc
 clear hc hR h
 obtain ⟨p0,q0,r0⟩:=over h0
 obtain ⟨p1,q1,r1⟩:=over h1
 obtain ⟨p2,q2,r2⟩:=over h2
 obtain ⟨p3,q3,r3⟩:=over h3
 obtain ⟨p4,q4,r4⟩:=over h4
 obtain ⟨p5,q5,r5⟩:=over h5
 go_enter Tryz.func120,Tryz.ntmps120
 go_wp2_with fail
 go_region
 all_goals (clear p0 q0 r0 h0 p1 q1 r1 h1 p2 q2 r2 h2 p3 q3 r3 h3 p4 q4 r4 h4 p5 q5 r5 h5; go_wp2_with fail; refine (HC.out _).mono ?_; rintro e w1 ⟨rfl,hb0⟩; have hb1:=b_undrew hb0; have hx:=zero3 hb1; obtain ⟨x0,x1,x2⟩:=hx; obtain ⟨c1,d1⟩:=bcell hb1; have z1:=zlt hb1; have hb2:Below w.heap.size w w1:=b_then (b_then (b_then hb1)); go_wp2_with fail; refine bodyPost_ret (v:=.tuple #[.agg #[.int .i64 rk,.int .i64 rn,.string rs],.int .i64 re]) (by simp [results,Tryz.results120,go_sem,x0,x1,x2]) rfl ⟨rfl,b_set3 hb2 _ (by omega) _ _ _⟩)
theorem comp_7 (a b:Vl) (g c:Nat) (w:World) (h:Vals w g [a,b]) :
  Calls Tryz.prog 120 #[.int .i64 7,.slice (some ⟨g,0,none⟩) 2 c] w fun e w' => e=.returned (.tuple #[.agg #[.int .i64 (compR 7 a b).1.k,.int .i64 (compR 7 a b).1.n,.string (compR 7 a b).1.s],.int .i64 (compR 7 a b).2])/\Below w.heap.size w w':=by
 obtain ⟨h0,h1,h2⟩:=h 0 (by simp)
 obtain ⟨h3,h4,h5⟩:=h 1 (by simp)
 have hc:=fun W => ar_7 a b W
 have hq:compR 7 a b=arR 7 a b:=rfl
 rw [← hq] at hc
 obtain ⟨R,hR⟩:∃ R,compR 7 a b=R:=⟨_,rfl⟩
 rw [hR] at hc ⊢
 obtain ⟨⟨rk,rn,rs⟩,re⟩:=R
 obtain ⟨k,n,s⟩:=a
 obtain ⟨j,m,t⟩:=b
 simp only [List.getElem_cons_zero,List.getElem_cons_succ,Nat.zero_mul,Nat.one_mul,Nat.zero_add,Nat.reduceAdd] at h0 h1 h2 h3 h4 h5 hc ⊢
 have HC:=Lib.hid hc
 clear hc hR h
 obtain ⟨p0,q0,r0⟩:=over h0
 obtain ⟨p1,q1,r1⟩:=over h1
 obtain ⟨p2,q2,r2⟩:=over h2
 obtain ⟨p3,q3,r3⟩:=over h3
 obtain ⟨p4,q4,r4⟩:=over h4
 obtain ⟨p5,q5,r5⟩:=over h5
 go_enter Tryz.func120,Tryz.ntmps120
 go_wp2_with fail
 go_region
 all_goals (clear p0 q0 r0 h0 p1 q1 r1 h1 p2 q2 r2 h2 p3 q3 r3 h3 p4 q4 r4 h4 p5 q5 r5 h5; go_wp2_with fail; refine (HC.out _).mono ?_; rintro e w1 ⟨rfl,hb0⟩; have hb1:=b_undrew hb0; have hx:=zero3 hb1; obtain ⟨x0,x1,x2⟩:=hx; obtain ⟨c1,d1⟩:=bcell hb1; have z1:=zlt hb1; have hb2:Below w.heap.size w w1:=b_then (b_then (b_then hb1)); go_wp2_with fail; refine bodyPost_ret (v:=.tuple #[.agg #[.int .i64 rk,.int .i64 rn,.string rs],.int .i64 re]) (by simp [results,Tryz.results120,go_sem,x0,x1,x2]) rfl ⟨rfl,b_set3 hb2 _ (by omega) _ _ _⟩)
theorem comp_8 (a b:Vl) (g c:Nat) (w:World) (h:Vals w g [a,b]) :
  Calls Tryz.prog 120 #[.int .i64 8,.slice (some ⟨g,0,none⟩) 2 c] w fun e w' => e=.returned (.tuple #[.agg #[.int .i64 (compR 8 a b).1.k,.int .i64 (compR 8 a b).1.n,.string (compR 8 a b).1.s],.int .i64 (compR 8 a b).2])/\Below w.heap.size w w':=by
 obtain ⟨h0,h1,h2⟩:=h 0 (by simp)
 obtain ⟨h3,h4,h5⟩:=h 1 (by simp)
 have hc:=fun W => ar_8 a b W
 have hq:compR 8 a b=arR 8 a b:=rfl
 rw [← hq] at hc
 obtain ⟨R,hR⟩:∃ R,compR 8 a b=R:=⟨_,rfl⟩
 rw [hR] at hc ⊢
 obtain ⟨⟨rk,rn,rs⟩,re⟩:=R
 obtain ⟨k,n,s⟩:=a
 obtain ⟨j,m,t⟩:=b
 simp only [List.getElem_cons_zero,List.getElem_cons_succ,Nat.zero_mul,Nat.one_mul,Nat.zero_add,Nat.reduceAdd] at h0 h1 h2 h3 h4 h5 hc ⊢
 have HC:=Lib.hid hc
 clear hc hR h
 obtain ⟨p0,q0,r0⟩:=over h0
 obtain ⟨p1,q1,r1⟩:=over h1
 obtain ⟨p2,q2,r2⟩:=over h2
 obtain ⟨p3,q3,r3⟩:=over h3
 obtain ⟨p4,q4,r4⟩:=over h4
 obtain ⟨p5,q5,r5⟩:=over h5
 go_enter Tryz.func120,Tryz.ntmps120
 go_wp2_with fail
 go_region
 all_goals (clear p0 q0 r0 h0 p1 q1 r1 h1 p2 q2 r2 h2 p3 q3 r3 h3 p4 q4 r4 h4 p5 q5 r5 h5; go_wp2_with fail; refine (HC.out _).mono ?_; rintro e w1 ⟨rfl,hb0⟩; have hb1:=b_undrew hb0; have hx:=zero3 hb1; obtain ⟨x0,x1,x2⟩:=hx; obtain ⟨c1,d1⟩:=bcell hb1; have z1:=zlt hb1; have hb2:Below w.heap.size w w1:=b_then (b_then (b_then hb1)); go_wp2_with fail; refine bodyPost_ret (v:=.tuple #[.agg #[.int .i64 rk,.int .i64 rn,.string rs],.int .i64 re]) (by simp [results,Tryz.results120,go_sem,x0,x1,x2]) rfl ⟨rfl,b_set3 hb2 _ (by omega) _ _ _⟩)
theorem comp_9 (a b:Vl) (g c:Nat) (w:World) (h:Vals w g [a,b]) :
  Calls Tryz.prog 120 #[.int .i64 9,.slice (some ⟨g,0,none⟩) 2 c] w fun e w' => e=.returned (.tuple #[.agg #[.int .i64 (compR 9 a b).1.k,.int .i64 (compR 9 a b).1.n,.string (compR 9 a b).1.s],.int .i64 (compR 9 a b).2])/\Below w.heap.size w w':=by
 obtain ⟨h0,h1,h2⟩:=h 0 (by simp)
 obtain ⟨h3,h4,h5⟩:=h 1 (by simp)
 have hc:=fun W => ar_9 a b W
 have hq:compR 9 a b=arR 9 a b:=rfl
 rw [← hq] at hc
 obtain ⟨R,hR⟩:∃ R,compR 9 a b=R:=⟨_,rfl⟩
 rw [hR] at hc ⊢
 obtain ⟨⟨rk,rn,rs⟩,re⟩:=R
 obtain ⟨k,n,s⟩:=a
 obtain ⟨j,m,t⟩:=b
 simp only [List.getElem_cons_zero,List.getElem_cons_succ,Nat.zero_mul,Nat.one_mul,Nat.zero_add,Nat.reduceAdd] at h0 h1 h2 h3 h4 h5 hc ⊢
 have HC:=Lib.hid hc
 clear hc hR h
 obtain ⟨p0,q0,r0⟩:=over h0
 obtain ⟨p1,q1,r1⟩:=over h1
 obtain ⟨p2,q2,r2⟩:=over h2
 obtain ⟨p3,q3,r3⟩:=over h3
 obtain ⟨p4,q4,r4⟩:=over h4
 obtain ⟨p5,q5,r5⟩:=over h5
 go_enter Tryz.func120,Tryz.ntmps120
 go_wp2_with fail
 go_region
 all_goals (clear p0 q0 r0 h0 p1 q1 r1 h1 p2 q2 r2 h2 p3 q3 r3 h3 p4 q4 r4 h4 p5 q5 r5 h5; go_wp2_with fail; refine (HC.out _).mono ?_; rintro e w1 ⟨rfl,hb0⟩; have hb1:=b_undrew hb0; have hx:=zero3 hb1; obtain ⟨x0,x1,x2⟩:=hx; obtain ⟨c1,d1⟩:=bcell hb1; have z1:=zlt hb1; have hb2:Below w.heap.size w w1:=b_then (b_then (b_then hb1)); go_wp2_with fail; refine bodyPost_ret (v:=.tuple #[.agg #[.int .i64 rk,.int .i64 rn,.string rs],.int .i64 re]) (by simp [results,Tryz.results120,go_sem,x0,x1,x2]) rfl ⟨rfl,b_set3 hb2 _ (by omega) _ _ _⟩)
theorem comp_10 (a b:Vl) (g c:Nat) (w:World) (ha:a.s.size<=40) (hb:b.s.size<=40) (h:Vals w g [a,b]) :
  Calls Tryz.prog 120 #[.int .i64 10,.slice (some ⟨g,0,none⟩) 2 c] w fun e w' => e=.returned (.tuple #[.agg #[.int .i64 (compR 10 a b).1.k,.int .i64 (compR 10 a b).1.n,.string (compR 10 a b).1.s],.int .i64 (compR 10 a b).2])/\Below w.heap.size w w':=by
 obtain ⟨h0,h1,h2⟩:=h 0 (by simp)
 obtain ⟨h3,h4,h5⟩:=h 1 (by simp)
 have hc:=fun W => joined_any a b ha hb W
 have hq:compR 10 a b=joinR a b:=rfl
 rw [← hq] at hc
 clear ha hb
 obtain ⟨R,hR⟩:∃ R,compR 10 a b=R:=⟨_,rfl⟩
 rw [hR] at hc ⊢
 obtain ⟨⟨rk,rn,rs⟩,re⟩:=R
 obtain ⟨k,n,s⟩:=a
 obtain ⟨j,m,t⟩:=b
 simp only [List.getElem_cons_zero,List.getElem_cons_succ,Nat.zero_mul,Nat.one_mul,Nat.zero_add,Nat.reduceAdd] at h0 h1 h2 h3 h4 h5 hc ⊢
 have HC:=Lib.hid hc
 clear hc hR h
 obtain ⟨p0,q0,r0⟩:=over h0
 obtain ⟨p1,q1,r1⟩:=over h1
 obtain ⟨p2,q2,r2⟩:=over h2
 obtain ⟨p3,q3,r3⟩:=over h3
 obtain ⟨p4,q4,r4⟩:=over h4
 obtain ⟨p5,q5,r5⟩:=over h5
 go_enter Tryz.func120,Tryz.ntmps120
 go_wp2_with fail
 go_region
 all_goals (clear p0 q0 r0 h0 p1 q1 r1 h1 p2 q2 r2 h2 p3 q3 r3 h3 p4 q4 r4 h4 p5 q5 r5 h5; go_wp2_with fail; refine (HC.out _).mono ?_; rintro e w1 ⟨rfl,hb0⟩; have hb1:=b_undrew hb0; have hx:=zero3 hb1; obtain ⟨x0,x1,x2⟩:=hx; obtain ⟨c1,d1⟩:=bcell hb1; have z1:=zlt hb1; have hb2:Below w.heap.size w w1:=b_then (b_then (b_then hb1)); go_wp2_with fail; refine bodyPost_ret (v:=.tuple #[.agg #[.int .i64 rk,.int .i64 rn,.string rs],.int .i64 re]) (by simp [results,Tryz.results120,go_sem,x0,x1,x2]) rfl ⟨rfl,b_set3 hb2 _ (by omega) _ _ _⟩)
theorem comp_cmp (a b:Vl) (g c:Nat) (w:World) (op:Int) (hop:11<=op/\op<=14) (ha:knownB a.k a.n a.s.data.toList=true) (hb:knownB b.k b.n b.s.data.toList=true) (h:Vals w g [a,b]) :
  Calls Tryz.prog 120 #[.int .i64 op,.slice (some ⟨g,0,none⟩) 2 c] w fun e w' => e=.returned (.tuple #[.agg #[.int .i64 (compR op a b).1.k,.int .i64 (compR op a b).1.n,.string (compR op a b).1.s],.int .i64 (compR op a b).2])/\Below w.heap.size w w':=by
 obtain ⟨h0,h1,h2⟩:=h 0 (by simp)
 obtain ⟨h3,h4,h5⟩:=h 1 (by simp)
 have hc:=fun W => comparison_any op hop a b ha hb W
 have hq:compR op a b=cmpR op a b:=by unfold compR; rw [if_neg (by omega),if_neg (by omega),if_neg (by omega),if_neg (by omega),if_neg (by omega)]
 rw [← hq] at hc
 clear ha hb hq
 obtain ⟨R,hR⟩:∃ R,compR op a b=R:=⟨_,rfl⟩
 rw [hR] at hc ⊢
 obtain ⟨⟨rk,rn,rs⟩,re⟩:=R
 obtain ⟨k,n,s⟩:=a
 obtain ⟨j,m,t⟩:=b
 simp only [List.getElem_cons_zero,List.getElem_cons_succ,Nat.zero_mul,Nat.one_mul,Nat.zero_add,Nat.reduceAdd] at h0 h1 h2 h3 h4 h5 hc ⊢
 have HC:=Lib.hid hc
 clear hc hR h
 have u3:(op == 3)=false:=beq_eq_false_iff_ne.2 (by omega)
 have u4:(op == 4)=false:=beq_eq_false_iff_ne.2 (by omega)
 have u5:(op == 5)=false:=beq_eq_false_iff_ne.2 (by omega)
 have u6:(op == 6)=false:=beq_eq_false_iff_ne.2 (by omega)
 have u7:(op == 7)=false:=beq_eq_false_iff_ne.2 (by omega)
 have u8:(op == 8)=false:=beq_eq_false_iff_ne.2 (by omega)
 have u9:(op == 9)=false:=beq_eq_false_iff_ne.2 (by omega)
 have u10:(op == 10)=false:=beq_eq_false_iff_ne.2 (by omega)
 have u18:(op == 18)=false:=beq_eq_false_iff_ne.2 (by omega)
 clear hop
 obtain ⟨p0,q0,r0⟩:=over h0
 obtain ⟨p1,q1,r1⟩:=over h1
 obtain ⟨p2,q2,r2⟩:=over h2
 obtain ⟨p3,q3,r3⟩:=over h3
 obtain ⟨p4,q4,r4⟩:=over h4
 obtain ⟨p5,q5,r5⟩:=over h5
 go_enter Tryz.func120,Tryz.ntmps120
 go_wp2_with fail
 go_region
 all_goals (clear p0 q0 r0 h0 p1 q1 r1 h1 p2 q2 r2 h2 p3 q3 r3 h3 p4 q4 r4 h4 p5 q5 r5 h5; go_wp2_with fail; refine (HC.out _).mono ?_; rintro e w1 ⟨rfl,hb0⟩; have hb1:=b_undrew hb0; have hx:=zero3 hb1; obtain ⟨x0,x1,x2⟩:=hx; obtain ⟨c1,d1⟩:=bcell hb1; have z1:=zlt hb1; have hb2:Below w.heap.size w w1:=b_then (b_then (b_then hb1)); go_wp2_with fail; refine bodyPost_ret (v:=.tuple #[.agg #[.int .i64 rk,.int .i64 rn,.string rs],.int .i64 re]) (by simp [results,Tryz.results120,go_sem,x0,x1,x2]) rfl ⟨rfl,b_set3 hb2 _ (by omega) _ _ _⟩)
end EvC
namespace EvO
open Go.RowKit
open NumM ValM StrM ExM TyM EvM Kit Ev EvC ExL
set_option linter.unusedVariables false
def BV (w:World) (B:Nat) (k n:Int) (s:ByteArray):Prop:=w.heap[B]?=some (.cells #[.int .i64 k,.int .i64 n,.string s] 38 (0,0))
theorem BV.cells {w:World} {B:Nat} {k n:Int} {s:ByteArray} (h:BV w B k n s):w.cell? ⟨B,0,none⟩=some (.int .i64 k)/\w.cell? ⟨B,1,none⟩=some (.int .i64 n)/\w.cell? ⟨B,2,none⟩=some (.string s):=by
 unfold BV at h
 exact ⟨by simp [World.cell?,h],by simp [World.cell?,h],by simp [World.cell?,h]⟩
theorem BV.frozen {w:World} {B:Nat} {k n:Int} {s:ByteArray} (h:BV w B k n s) (o:Nat):w.frozen? ⟨B,o,none⟩=false:=by
 unfold BV at h; simp [World.frozen?,h]
theorem BV.lt {w:World} {B:Nat} {k n:Int} {s:ByteArray} (h:BV w B k n s):B < w.heap.size:=(Array.getElem?_eq_some_iff.1 h).1
theorem BV.below {w w':World} {B:Nat} {k n:Int} {s:ByteArray} (h:BV w B k n s) (hb:Below w.heap.size w w'):BV w' B k n s:=(hb.block B h.lt).trans h
theorem BV.new (w:World) (k n:Int) (s:ByteArray):BV (w.alloc (.cells #[.int .i64 k,.int .i64 n,.string s] 38)) w.heap.size k n s:=World.alloc_heap_new w _
theorem BV.set3 {w:World} {B:Nat} {k n:Int} {s:ByteArray} (h:BV w B k n s) (a b:Int) (c:ByteArray):BV (((w.setCell ⟨B,0,none⟩ (.int .i64 a)).setCell ⟨B,1,none⟩ (.int .i64 b)).setCell ⟨B,2,none⟩ (.string c)) B a b c:=by
 have e1:=heap_setCell_same w B 0 _ _ (.int .i64 a) h
 have e2:=heap_setCell_same _ B 1 _ _ (.int .i64 b) e1
 have e3:=heap_setCell_same _ B 2 _ _ (.string c) e2
 exact e3
theorem ix0 (w:World):(Instr.index 174 (.agg #[.int .i64 5,.int .i64 4]) (.int .i64 0)).run Tryz.prog w=.ok (.int .i64 5) w:=by kernel_rfl
theorem ix1 (w:World):(Instr.index 174 (.agg #[.int .i64 5,.int .i64 4]) (.int .i64 1)).run Tryz.prog w=.ok (.int .i64 4) w:=by kernel_rfl
theorem opV_comp {op:Int} {vs:List Vl} (h5:firstK 5 vs=none) (h4:firstK 4 vs=none):opV op vs=resV (compR op (vs.getD 0 zeroV) (vs.getD (vs.length - 1) zeroV)):=by
 unfold opV; rw [h5,h4]
theorem none_known {vs:List Vl} (hok:∀ v ∈ vs,v.ok) (h5:firstK 5 vs=none) (h4:firstK 4 vs=none):∀ v ∈ vs,knownB v.k v.n v.s.data.toList=true:=fun v hv =>
 ok_known (hok v hv) (firstK_none.1 h4 v hv) (firstK_none.1 h5 v hv)
theorem ok_short {v:Vl} (h:v.ok):v.s.size<=40:=by
 rcases ok_cases h with h | h | h | h | h
 ·rw [h.2.2]; decide
 ·rw [h.2.2]; decide
 ·exact h.2.2.1
 ·rw [h.2.2]; decide
 ·rw [h.2.2.2]; decide
theorem computed_any (op:Int) (vs:List Vl) (g c:Nat) (w:World) (h3:3<=op) (h18:op<=18) (hno:op ≠ 15/\op ≠ 16/\op ≠ 17) (hlen:vs.length=arity op) (hok:∀ v ∈ vs,v.ok) (h5:firstK 5 vs=none) (h4:firstK 4 vs=none) (h:Vals w g vs) :
  Calls Tryz.prog 120 #[.int .i64 op,.slice (some ⟨g,0,none⟩) vs.length c] w fun e w' => e=.returned (.tuple #[.agg #[.int .i64 (compR op (vs.getD 0 zeroV) (vs.getD (vs.length - 1) zeroV)).1.k,.int .i64 (compR op (vs.getD 0 zeroV) (vs.getD (vs.length - 1) zeroV)).1.n,.string (compR op (vs.getD 0 zeroV) (vs.getD (vs.length - 1) zeroV)).1.s],.int .i64 (compR op (vs.getD 0 zeroV) (vs.getD (vs.length - 1) zeroV)).2])/\Below w.heap.size w w':=by
 obtain ⟨_,_,_,_,a5,a6⟩:=arity_cases op
 have hkn:=none_known hok h5 h4
 by_cases pu:op=3 ∨ op=4 ∨ op=18
 ·have hl:=hlen.trans (a5 pu)
  match vs,hl with
  | [b],_ =>
   have hb:=hok b (by simp)
   rcases pu with rfl | rfl | rfl
   ·exact comp_3 b b g c w h
   ·exact comp_4 b b g c w hb h
   ·exact comp_18 b b g c w (ok_short hb) h
 ·have hl:=hlen.trans (a6 (by omega) (by omega))
  match vs,hl with
  | [a,b],_ =>
   have ha:=hok a (by simp)
   have hb:=hok b (by simp)
   by_cases pc:11<=op/\op<=14
   ·exact comp_cmp a b g c w op pc (hkn a (by simp)) (hkn b (by simp)) h
   ·have:op=5 ∨ op=6 ∨ op=7 ∨ op=8 ∨ op=9 ∨ op=10:=by omega
    rcases this with rfl | rfl | rfl | rfl | rfl | rfl
    ·exact comp_5 a b g c w h
    ·exact comp_6 a b g c w h
    ·exact comp_7 a b g c w h
    ·exact comp_8 a b g c w h
    ·exact comp_9 a b g c w h
    ·exact comp_10 a b g c w (ok_short ha) (ok_short hb) h
set_option maxRecDepth 100000 in
set_option maxHeartbeats 2000000 in
theorem operation_any (op:Int) (vs:List Vl) (g c:Nat) (w:World) (h3:3<=op) (h18:op<=18) (hno:op ≠ 15/\op ≠ 16/\op ≠ 17) (hlen:vs.length=arity op) (hok:∀ v ∈ vs,v.ok) (h:Vals w g vs) :
  Calls Tryz.prog 94 #[.int .i64 op,.slice (some ⟨g,0,none⟩) vs.length c] w fun e w' => e=.returned (.agg #[.int .i64 (opV op vs).k,.int .i64 (opV op vs).n,.string (opV op vs).s])/\Below w.heap.size w w':=by
 obtain ⟨r,hr⟩:∃ r,opV op vs=r:=⟨_,rfl⟩
 rw [hr]
 obtain ⟨rk,rn,rs⟩:=r
 have hl3:vs.length<=3:=by rw [hlen]; exact ((arity_cases op).2.2.1 (by omega) (by omega)).2
 have hcp:=fun W (hb:Below w.heap.size w W) h5 h4 => computed_any op vs g c W h3 h18 hno hlen hok h5 h4 (h.below hb)
 have HV:=Lib.hid h
 have HR:=Lib.hid hr
 have HC:=Lib.hid hcp
 have z0:=BV.new w 0 0 ⟨#[]⟩
 have hbW:=b_new w (.cells #[.int .i64 0,.int .i64 0,.string ⟨#[]⟩] 38)
 obtain ⟨W,hW⟩:∃ W,w.alloc (.cells #[.int .i64 0,.int .i64 0,.string ⟨#[]⟩] 38)=W:=⟨_,rfl⟩
 rw [hW] at z0 hbW
 have HW:=Lib.hid hW
 have HZ:=Lib.hid z0
 have HBW:=Lib.hid hbW
 clear h hr hcp hok hlen hno h3 h18 z0 hbW hW
 go_enter Tryz.func94,Tryz.ntmps94
 go_wp2_with fail
 rw [HW.out]
 go_loopw [6,8,12,17] (fun _ _ i _ wr => ∃ j:Int,i=.int .i64 j/\(j=0 ∨ j=1 ∨ j=2)/\Below W.heap.size W wr/\(j ≠ 0->firstK 5 vs=none)/\(j=2->firstK 4 vs=none)) (fun _ _ i _ _ => 2 - (intOf i).toNat)
 case atStart => exact ⟨0,rfl,.inl rfl,Below.refl _ _,fun h => absurd rfl h,fun h => absurd h (by decide)⟩
 case round =>
  obtain ⟨j,rfl,hj,hb,f5,f4⟩:=hrel
  have F5:=Lib.hid f5
  have F4:=Lib.hid f4
  have HB:=Lib.hid hb
  clear f5 f4 hb
  rcases hj with rfl | rfl | rfl
  ·have ix0:=@ix0
   have ix1:=@ix1
   go_wp2_with fail
   obtain ⟨wo,rfl⟩:∃ wo:World,wo=wr:=⟨_,rfl⟩
   go_loopw [8,17] (fun _ i wx => ∃ k:Nat,i=.int .i64 k/\k<=vs.length/\Below W.heap.size W wx/\(∀ i (hi:i < vs.length),i < k->vs[i].k ≠ 5)) (fun _ i _ => vs.length - (intOf i).toNat)
   case atStart => exact ⟨0,rfl,by omega,HB.out,fun i hi h => by omega⟩
   case round =>
    obtain ⟨k,rfl,hk,hbx,hne⟩:=hrel
    have HNE:=Lib.hid hne
    have HBX:=Lib.hid hbx
    clear hne hbx
    by_cases hlk:k < vs.length
    ·obtain ⟨d0,d1,d2⟩:=(HV.out k hlk).below (b_trans HBW.out HBX.out)
     obtain ⟨x0,x1,x2⟩:=(HZ.out.below HBX.out).cells
     have y0:=(HZ.out.below HBX.out).frozen
     have zl:=(HZ.out.below HBX.out).lt
     obtain ⟨v,hv⟩:∃ v,vs[k]=v:=⟨_,rfl⟩
     have HVk:=Lib.hid hv
     rw [hv] at d0 d1 d2
     obtain ⟨vk,vn,vt⟩:=v
     simp only at d0 d1 d2
     clear hv
     by_cases hkk:vk=5
     ·have hfin:Value.agg #[.int .i64 vk,.int .i64 vn,.string vt]=.agg #[.int .i64 rk,.int .i64 rn,.string rs]:=by
       have hh:=firstK_hit 5 vs k hlk HNE.out (by rw [HVk.out]; exact hkk)
       have hr:=HR.out
       unfold opV at hr
       rw [hh] at hr
       simp only at hr
       rw [HVk.out] at hr
       injection hr with e1 e2 e3
       rw [e1,e2,e3]
      subst hkk
      have HF:=Lib.hid hfin
      have HBE2:=Lib.hid (b_trans HBW.out HBX.out)
      have kS:=(HZ.out.below HBX.out).set3 5 vn vt
      have kY:=kS.below (b_new _ (.cells #[.int .i64 5,.int .i64 vn,.string vt] 38))
      have hbY:=b_more (b_set3 HBE2.out _ (Nat.le_refl _) (.int .i64 5) (.int .i64 vn) (.string vt)) (.cells #[.int .i64 5,.int .i64 vn,.string vt] 38)
      have KY:=Lib.hid kY
      have KB:=Lib.hid hbY
      clear hfin kS kY hbY
      go_wp2_with fail
      have kY:=KY.out
      have hbY:=KB.out
      clear KY KB
      generalize hY:World.alloc _ _=Y at kY hbY ⊢
      obtain ⟨u0,u1,u2⟩:=kY.cells
      clear hY kY x0 x1 x2 y0
      refine bodyPost_ret (v:=.agg #[.int .i64 5,.int .i64 vn,.string vt]) (by simp [results,Tryz.results94,go_sem,u0,u1,u2]) rfl ⟨by rw [HF.out],hbY⟩
     ·have t0:(vk == 5)=false:=beq_eq_false_iff_ne.2 hkk
      go_wp2_with fail
      go_roundw
      case rel => exact ⟨k + 1,by go_num,by omega,HBX.out.trans ((b_new _ _).mono HBX.out.size),fun i hi h => by
       by_cases e:i=k
       ·subst e; rw [HVk.out]; exact hkk
       ·exact HNE.out i hi (by omega)⟩
      case measure => simp [intOf]; omega
    ·have hnone:firstK 5 vs=none:=firstK_none.2 fun v hv => by
      obtain ⟨i,hi,rfl⟩:=List.getElem_of_mem hv
      exact HNE.out i hi (by omega)
     have HN:=Lib.hid hnone
     clear hnone
     go_wp2_with fail
     go_roundw
     case rel => exact ⟨0 + 1,by first | rfl | go_num,by omega,HBX.out,fun _ => HN.out,fun h => by omega⟩
     case measure => simp [intOf]
  ·have ix0:=@ix0
   have ix1:=@ix1
   go_wp2_with fail
   obtain ⟨wo,rfl⟩:∃ wo:World,wo=wr:=⟨_,rfl⟩
   go_loopw [8,17] (fun _ i wx => ∃ k:Nat,i=.int .i64 k/\k<=vs.length/\Below W.heap.size W wx/\(∀ i (hi:i < vs.length),i < k->vs[i].k ≠ 4)) (fun _ i _ => vs.length - (intOf i).toNat)
   case atStart => exact ⟨0,rfl,by omega,HB.out,fun i hi h => by omega⟩
   case round =>
    obtain ⟨k,rfl,hk,hbx,hne⟩:=hrel
    have HNE:=Lib.hid hne
    have HBX:=Lib.hid hbx
    clear hne hbx
    by_cases hlk:k < vs.length
    ·obtain ⟨d0,d1,d2⟩:=(HV.out k hlk).below (b_trans HBW.out HBX.out)
     obtain ⟨x0,x1,x2⟩:=(HZ.out.below HBX.out).cells
     have y0:=(HZ.out.below HBX.out).frozen
     have zl:=(HZ.out.below HBX.out).lt
     obtain ⟨v,hv⟩:∃ v,vs[k]=v:=⟨_,rfl⟩
     have HVk:=Lib.hid hv
     rw [hv] at d0 d1 d2
     obtain ⟨vk,vn,vt⟩:=v
     simp only at d0 d1 d2
     clear hv
     by_cases hkk:vk=4
     ·have hfin:Value.agg #[.int .i64 vk,.int .i64 vn,.string vt]=.agg #[.int .i64 rk,.int .i64 rn,.string rs]:=by
       have hh:=firstK_hit 4 vs k hlk HNE.out (by rw [HVk.out]; exact hkk)
       have hr:=HR.out
       unfold opV at hr
       rw [F5.out (by decide),hh] at hr
       simp only at hr
       rw [HVk.out] at hr
       injection hr with e1 e2 e3
       rw [e1,e2,e3]
      subst hkk
      have HF:=Lib.hid hfin
      have HBE2:=Lib.hid (b_trans HBW.out HBX.out)
      have kS:=(HZ.out.below HBX.out).set3 4 vn vt
      have kY:=kS.below (b_new _ (.cells #[.int .i64 4,.int .i64 vn,.string vt] 38))
      have hbY:=b_more (b_set3 HBE2.out _ (Nat.le_refl _) (.int .i64 4) (.int .i64 vn) (.string vt)) (.cells #[.int .i64 4,.int .i64 vn,.string vt] 38)
      have KY:=Lib.hid kY
      have KB:=Lib.hid hbY
      clear hfin kS kY hbY
      go_wp2_with fail
      have kY:=KY.out
      have hbY:=KB.out
      clear KY KB
      generalize hY:World.alloc _ _=Y at kY hbY ⊢
      obtain ⟨u0,u1,u2⟩:=kY.cells
      clear hY kY x0 x1 x2 y0
      refine bodyPost_ret (v:=.agg #[.int .i64 4,.int .i64 vn,.string vt]) (by simp [results,Tryz.results94,go_sem,u0,u1,u2]) rfl ⟨by rw [HF.out],hbY⟩
     ·have t0:(vk == 4)=false:=beq_eq_false_iff_ne.2 hkk
      go_wp2_with fail
      go_roundw
      case rel => exact ⟨k + 1,by go_num,by omega,HBX.out.trans ((b_new _ _).mono HBX.out.size),fun i hi h => by
       by_cases e:i=k
       ·subst e; rw [HVk.out]; exact hkk
       ·exact HNE.out i hi (by omega)⟩
      case measure => simp [intOf]; omega
    ·have hnone:firstK 4 vs=none:=firstK_none.2 fun v hv => by
      obtain ⟨i,hi,rfl⟩:=List.getElem_of_mem hv
      exact HNE.out i hi (by omega)
     have HN:=Lib.hid hnone
     clear hnone
     go_wp2_with fail
     go_roundw
     case rel => exact ⟨1 + 1,by first | rfl | go_num,by omega,HBX.out,fun _ => F5.out (by decide),fun h => HN.out⟩
     case measure => simp [intOf]
  ·have f5:=F5.out (by decide)
   have f4:=F4.out rfl
   have hc:=HC.out wr (b_trans HBW.out HB.out) f5 f4
   have hr:=HR.out
   rw [opV_comp f5 f4] at hr
   obtain ⟨q,hq⟩:∃ q,compR op (vs.getD 0 zeroV) (vs.getD (vs.length - 1) zeroV)=q:=⟨_,rfl⟩
   rw [hq] at hc hr
   obtain ⟨⟨qk,qn,qs⟩,qe⟩:=q
   simp only at hc
   have HQ:=Lib.hid hr
   have HC2:=Lib.hid hc
   clear hr hc hq f5 f4
   go_wp2_with fail
   refine HC2.out.mono ?_; rintro e w1 ⟨rfl,hb1⟩
   have hbE:=b_trans HB.out hb1
   obtain ⟨x0,x1,x2⟩:=(HZ.out.below hbE).cells
   have y0:=(HZ.out.below hbE).frozen
   have zl:=(HZ.out.below hbE).lt
   have HBE:=Lib.hid hbE
   clear hb1 hbE
   by_cases h0:qe=0
   ·subst h0
    have hr:=HQ.out
    unfold resV at hr
    rw [if_pos rfl] at hr
    injection hr with e1 e2 e3
    subst e1 e2 e3
    go_wp2_with fail
    have kS:=(HZ.out.below HBE.out).set3 qk qn qs
    have kY:=kS.below (b_new _ (.cells #[.int .i64 qk,.int .i64 qn,.string qs] 38))
    have hbY:=b_more (b_set3 (b_trans HBW.out HBE.out) _ (Nat.le_refl _) (.int .i64 qk) (.int .i64 qn) (.string qs)) (.cells #[.int .i64 qk,.int .i64 qn,.string qs] 38)
    clear kS
    generalize hY:World.alloc _ _=Y at kY hbY ⊢
    obtain ⟨u0,u1,u2⟩:=kY.cells
    clear hY kY x0 x1 x2 y0
    refine bodyPost_ret (v:=.agg #[.int .i64 qk,.int .i64 qn,.string qs]) (by simp [results,Tryz.results94,go_sem,u0,u1,u2]) rfl ⟨rfl,hbY⟩
   ·have hr:=HQ.out
    unfold resV at hr
    rw [if_neg h0] at hr
    injection hr with e1 e2 e3
    have e1:(5:Int)=rk:=e1
    have e2:qe=rn:=e2
    have e3:(⟨#[]⟩:ByteArray)=rs:=e3
    subst e1 e2 e3
    have t0:(qe == 0)=false:=beq_eq_false_iff_ne.2 h0
    go_wp2_with fail
    refine (fault_any _ _).mono ?_; rintro e w2 ⟨rfl,hb2⟩
    have hz2:=((HZ.out.below HBE.out).below (b_new w1 (.cells #[.int .i64 qk,.int .i64 qn,.string qs] 38))).below hb2
    obtain ⟨u0,u1,u2⟩:=hz2.cells
    have v0:=hz2.frozen
    have vl:=hz2.lt
    go_wp2_with fail
    refine bodyPost_ret (v:=.agg #[.int .i64 5,.int .i64 qe,.string ⟨#[]⟩]) (by simp [results,Tryz.results94,go_sem,u0,u1,u2]) rfl ⟨rfl,b_set3 (b_trans (b_more (b_trans HBW.out HBE.out) _) hb2) _ (Nat.le_refl _) _ _ _⟩
end EvO
end Go.Proofs.YtonlkmkfcaadlaaGreatDoor
