/- FldCheck NmPut SRow SMap: what these laws name of them. -/
import Derived.Deep.DeepCutAuto
import Derived.Deep.CutBlock
import Derived.Laws.AppendOwnNone
import Derived.Sort.EncStr
import Derived.StringKeys
import Derived.Test.YtjhhmdmmllblhaaGreatDoorKt06
namespace Go.Proofs.YtjhhmdmmllblhaaGreatDoor
set_option linter.unusedVariables false
namespace FldR
open Go.RowKit
open ValM LexM NumM ExM Kit ExL ExN ExC RawV Within RawL GenL FldP
set_option linter.unusedVariables false
def bareB (d:Nd) (n:Nat):Bool:=decide (d.op=0) && decide (d.k=0) && decide (d.n=0) && decide (d.s=⟨#[]⟩) && decide (d.nm=⟨#[]⟩) && decide (n=0)
def rightE (f:GenL.Fd) (x:Ex):Int :=
 if LexB.nameE f.nm.data.toList ≠ 0 then LexB.nameE f.nm.data.toList
 else if isT f.kind=true/\isT f.ty=true then (if f.kind=1 then (if bareB f.d f.n=true then 0 else 3) else x.checkE)
 else 2
theorem isT_iff {k:Int}:isT k=true ↔ 1<=k/\k<=3:=by unfold isT; simp; omega
theorem empty_t {s:ByteArray} (h:s=⟨#[]⟩):s.toList.isEmpty=true:=by rw [h,ByteArray.toList_eq]; rfl
theorem empty_n {s:ByteArray} (h:s ≠ ⟨#[]⟩):s.toList.isEmpty=false:=by
 cases hs:s.toList with
 | nil =>
  exfalso
  apply h
  rw [ByteArray.toList_eq] at hs
  exact ByteArray.ext (Array.ext' hs)
 | cons a l => rfl
set_option maxHeartbeats 1000000 in
theorem isKind_any (k:Int) (w:World):Calls Tryz.prog 102 #[.int .i64 k] w fun e w' => e=.returned (.bool (isT k))/\w=w':=by
 by_cases h1:k=1
 ·subst h1
  go_enter Tryz.func102,Tryz.ntmps102
  go_wp2
  go_ret
  exact ⟨rfl,rfl⟩
 ·by_cases h2:k=2
  ·subst h2
   go_enter Tryz.func102,Tryz.ntmps102
   go_wp2
   go_ret
   exact ⟨rfl,rfl⟩
  ·by_cases h3:k=3
   ·subst h3
    go_enter Tryz.func102,Tryz.ntmps102
    go_wp2
    go_ret
    exact ⟨rfl,rfl⟩
   ·have e:isT k=false:=by unfold isT; simp [h1,h2,h3]
    rw [e]
    have t1:(k == 1)=false:=beq_eq_false_iff_ne.2 h1
    have t2:(k == 2)=false:=beq_eq_false_iff_ne.2 h2
    have t3:(k == 3)=false:=beq_eq_false_iff_ne.2 h3
    clear e h1 h2 h3
    go_enter Tryz.func102,Tryz.ntmps102
    go_wp2
    go_ret
    exact ⟨rfl,rfl⟩
set_option maxHeartbeats 2000000 in
theorem isAbsent_any (d:Nd) (A:Option Addr) (n c:Nat) (w:World):Calls Tryz.prog 104 #[.agg #[.int .i64 d.op,.int .i64 d.k,.int .i64 d.n,.string d.s,.string d.nm,.slice A n c]] w fun e w' => e=.returned (.bool (bareB d n))/\Below w.heap.size w w':=by
 obtain ⟨b,hb⟩:∃ b,bareB d n=b:=⟨_,rfl⟩
 rw [hb]
 unfold bareB at hb
 by_cases h1:d.op=0
 ·have t1:(d.op == 0)=true:=beq_iff_eq.2 h1
  rw [decide_eq_true h1,Bool.true_and] at hb
  clear h1
  by_cases h2:d.k=0/\d.n=0/\d.s=⟨#[]⟩
  ·obtain ⟨h2,h3,h4⟩:=h2
   have t2:(d.k == 0)=true:=beq_iff_eq.2 h2
   have t3:(d.n == 0)=true:=beq_iff_eq.2 h3
   have t4:=empty_t h4
   rw [decide_eq_true h2,decide_eq_true h3,decide_eq_true h4,Bool.true_and,Bool.true_and,Bool.true_and] at hb
   clear h2 h3 h4
   by_cases h5:d.nm=⟨#[]⟩
   ·have t5:=empty_t h5
    rw [decide_eq_true h5,Bool.true_and] at hb
    clear h5
    have t6:((n:Int) == 0)=b:=by
     rw [← hb]
     by_cases h6:n=0
     ·subst h6; rfl
     ·rw [decide_eq_false h6]; exact beq_eq_false_iff_ne.2 (by omega)
    clear hb
    cases b
    all_goals
     go_enter Tryz.func104,Tryz.ntmps104
     go_wp2
     go_ret
     exact ⟨rfl,b_new _ _⟩
   ·have t5:=empty_n h5
    rw [decide_eq_false h5,Bool.false_and] at hb
    subst hb
    clear h5
    go_enter Tryz.func104,Tryz.ntmps104
    go_wp2
    go_ret
    exact ⟨rfl,b_new _ _⟩
  ·have e:b=false:=by
    rw [← hb]
    cases e1:decide (d.k=0) <;> cases e2:decide (d.n=0) <;> cases e3:decide (d.s=⟨#[]⟩) <;> simp_all
   subst e
   clear hb
   by_cases g2:d.k=0
   ·have t2:(d.k == 0)=true:=beq_iff_eq.2 g2
    by_cases g3:d.n=0
    ·have t3:(d.n == 0)=true:=beq_iff_eq.2 g3
     have t4:=empty_n fun g4 => h2 ⟨g2,g3,g4⟩
     clear h2 g2 g3
     go_enter Tryz.func104,Tryz.ntmps104
     go_wp2
     go_ret
     exact ⟨rfl,b_new _ _⟩
    ·have t3:(d.n == 0)=false:=beq_eq_false_iff_ne.2 g3
     clear h2 g2 g3
     go_enter Tryz.func104,Tryz.ntmps104
     go_wp2
     go_ret
     exact ⟨rfl,b_new _ _⟩
   ·have t2:(d.k == 0)=false:=beq_eq_false_iff_ne.2 g2
    clear h2 g2
    go_enter Tryz.func104,Tryz.ntmps104
    go_wp2
    go_ret
    exact ⟨rfl,b_new _ _⟩
 ·have t1:(d.op == 0)=false:=beq_eq_false_iff_ne.2 h1
  rw [decide_eq_false h1] at hb
  simp only [Bool.false_and] at hb
  subst hb
  clear h1
  go_enter Tryz.func104,Tryz.ntmps104
  go_wp2
  go_ret
  exact ⟨rfl,b_new _ _⟩
def rightHead (w:World) (f:GenL.Fd):World:=w.alloc (.cells #[.string f.nm,.int .i64 f.kind,.int .i64 f.ty,.int .i64 f.d.op,.int .i64 f.d.k,.int .i64 f.d.n,.string f.d.s,.string f.d.nm,.slice f.A f.n f.c] 47)
theorem head_cells (w:World) (f:GenL.Fd) (V:World) (hV:Below (rightHead w f).heap.size (rightHead w f) V):V.cell? ⟨w.heap.size,0,none⟩=some (.string f.nm)/\V.cell? ⟨w.heap.size,1,none⟩=some (.int .i64 f.kind)/\V.cell? ⟨w.heap.size,2,none⟩=some (.int .i64 f.ty)/\V.cell? ⟨w.heap.size,3,none⟩=some (.int .i64 f.d.op)/\V.cell? ⟨w.heap.size,4,none⟩=some (.int .i64 f.d.k)/\V.cell? ⟨w.heap.size,5,none⟩=some (.int .i64 f.d.n)/\V.cell? ⟨w.heap.size,6,none⟩=some (.string f.d.s)/\V.cell? ⟨w.heap.size,7,none⟩=some (.string f.d.nm)/\V.cell? ⟨w.heap.size,8,none⟩=some (.slice f.A f.n f.c):=by
 have e1:V.heap[w.heap.size]?=_:=(hV.block _ (by show _ < (w.alloc _).heap.size; simp)).trans (World.alloc_heap_new w (.cells #[.string f.nm,.int .i64 f.kind,.int .i64 f.ty,.int .i64 f.d.op,.int .i64 f.d.k,.int .i64 f.d.n,.string f.d.s,.string f.d.nm,.slice f.A f.n f.c] 47))
 exact ⟨by simp [World.cell?,e1],by simp [World.cell?,e1],by simp [World.cell?,e1],by simp [World.cell?,e1],by simp [World.cell?,e1],by simp [World.cell?,e1],by simp [World.cell?,e1],by simp [World.cell?,e1],by simp [World.cell?,e1]⟩
set_option maxHeartbeats 4000000 in
theorem right_any (f:GenL.Fd) (x:Ex) (w:World) (hs:f.nm.size<=maxLen) (his:Is w x f.d f.A f.n) (hT:Tab w) :
  Calls Tryz.prog 68 #[.agg #[.string f.nm,.int .i64 f.kind,.int .i64 f.ty,.int .i64 f.d.op,.int .i64 f.d.k,.int .i64 f.d.n,.string f.d.s,.string f.d.nm,.slice f.A f.n f.c]] w fun e w' => e=.returned (.int .i64 (rightE f x))/\Below w.heap.size w w':=by
 obtain ⟨R,hR⟩:∃ R,rightE f x=R:=⟨_,rfl⟩
 rw [hR]
 obtain ⟨W,hW⟩:∃ W,w.alloc (.cells #[.string f.nm,.int .i64 f.kind,.int .i64 f.ty,.int .i64 f.d.op,.int .i64 f.d.k,.int .i64 f.d.n,.string f.d.s,.string f.d.nm,.slice f.A f.n f.c] 47)=W:=⟨_,rfl⟩
 have hb0:=b_new w (.cells #[.string f.nm,.int .i64 f.kind,.int .i64 f.ty,.int .i64 f.d.op,.int .i64 f.d.k,.int .i64 f.d.n,.string f.d.s,.string f.d.nm,.slice f.A f.n f.c] 47)
 have hcell:=head_cells w f
 unfold rightHead at hcell
 rw [hW] at hb0 hcell
 have hnm:=fun V => LexB.name_any f.nm V hs
 have hck:∀ V:World,Below W.heap.size W V->Calls Tryz.prog 53 #[.agg #[.int .i64 f.d.op,.int .i64 f.d.k,.int .i64 f.d.n,.string f.d.s,.string f.d.nm,.slice f.A f.n f.c]] V fun e w' => e=.returned (.int .i64 x.checkE)/\Below V.heap.size V w':=fun V hV =>
  check_any x f.d f.A f.n f.c V (his.below (b_trans hb0 hV)) (hT.below (b_trans hb0 hV))
 have hki:=fun V => isKind_any f.kind V
 have hab:=fun V => isAbsent_any f.d f.A f.n f.c V
 unfold rightE at hR
 generalize LexB.nameE f.nm.data.toList=ne at hnm hR
 have HB0:=Lib.hid hb0
 have HCell:=Lib.hid hcell
 have HNm:=Lib.hid hnm
 have HCk:=Lib.hid hck
 have HKi:=Lib.hid hki
 have HAb:=Lib.hid hab
 have HW:=Lib.hid hW
 obtain ⟨q0,q1,q2,q3,q4,q5,q6,q7,q8⟩:=hcell W (Below.refl _ _)
 clear hb0 hcell hnm hck hki hab hW his hT
 by_cases h1:ne=0
 ·subst h1
  rw [if_neg (by simp)] at hR
  cases hk:isT f.kind with
  | false =>
   rw [hk,if_neg (by simp)] at hR
   subst hR
   rw [hk] at HKi
   clear hk
   go_enter Tryz.func68,Tryz.ntmps68
   go_wp2_with fail
   rw [HW.out]
   refine (HNm.out _).mono ?_; rintro e w1 ⟨rfl,rfl⟩
   go_wp2_with fail
   refine (HKi.out _).mono ?_; rintro e w1 ⟨rfl,rfl⟩
   go_wp2_with fail
   go_ret
   exact ⟨rfl,HB0.out⟩
  | true =>
   rw [hk] at hR HKi
   clear hk
   cases hy:isT f.ty with
   | false =>
    rw [hy,if_neg (by simp)] at hR
    subst hR
    have hz:=fun V => Val.zero_out f.ty V hy
    have HZ:=Lib.hid hz
    clear hz hy
    go_enter Tryz.func68,Tryz.ntmps68
    go_wp2_with fail
    rw [HW.out]
    refine (HNm.out _).mono ?_; rintro e w1 ⟨rfl,rfl⟩
    go_wp2_with fail
    refine (HKi.out _).mono ?_; rintro e w1 ⟨rfl,rfl⟩
    go_wp2_with fail
    refine (HZ.out _).mono ?_; rintro e w2 ⟨rfl,hb2⟩
    obtain ⟨cA,cB⟩:=bcell hb2
    have HB2:=Lib.hid hb2
    clear hb2
    go_wp2_with fail
    go_ret
    exact ⟨rfl,b_more (b_trans HB0.out HB2.out) _⟩
   | true =>
    rw [hy,if_pos ⟨rfl,rfl⟩] at hR
    have hz:=fun V => Val.zero_in f.ty V hy
    have HZ:=Lib.hid hz
    clear hz hy
    by_cases h3:f.kind=1
    ·rw [if_pos h3] at hR
     have t3:(f.kind != 1)=false:=by rw [h3]; rfl
     clear h3
     obtain ⟨b,hb⟩:∃ b,bareB f.d f.n=b:=⟨_,rfl⟩
     rw [hb] at hR HAb
     clear hb
     go_enter Tryz.func68,Tryz.ntmps68
     go_wp2_with fail
     rw [HW.out]
     refine (HNm.out _).mono ?_; rintro e w1 ⟨rfl,rfl⟩
     go_wp2_with fail
     refine (HKi.out _).mono ?_; rintro e w1 ⟨rfl,rfl⟩
     go_wp2_with fail
     refine (HZ.out _).mono ?_; rintro e w2 ⟨rfl,hb2⟩
     obtain ⟨W2,hW2⟩:∃ V,w2.alloc (.cells #[.int .i64 f.ty,.int .i64 0,.string ⟨#[]⟩] 42)=V:=⟨_,rfl⟩
     have hb3:=b_more hb2 (.cells #[.int .i64 f.ty,.int .i64 0,.string ⟨#[]⟩] 42)
     rw [hW2] at hb3
     obtain ⟨k0,k1,k2,k3,k4,k5,k6,k7,k8⟩:=HCell.out W2 hb3
     have HB3:=Lib.hid hb3
     have HW2:=Lib.hid hW2
     clear hb2 hb3 hW2
     go_upto_region 7 with fail
     rw [HW2.out]
     go_wp2_with fail
     refine (HAb.out _).mono ?_; rintro e w4 ⟨rfl,hb4⟩
     have HB4:=Lib.hid (b_trans HB0.out (b_trans HB3.out hb4))
     clear hb4
     cases b
     all_goals
      simp at hR
      subst hR
      go_wp2_with fail
      go_ret
      exact ⟨rfl,HB4.out⟩
    ·rw [if_neg h3] at hR
     subst hR
     have t3:(f.kind != 1)=true:=by simpa using h3
     clear h3
     go_enter Tryz.func68,Tryz.ntmps68
     go_wp2_with fail
     rw [HW.out]
     refine (HNm.out _).mono ?_; rintro e w1 ⟨rfl,rfl⟩
     go_wp2_with fail
     refine (HKi.out _).mono ?_; rintro e w1 ⟨rfl,rfl⟩
     go_wp2_with fail
     refine (HZ.out _).mono ?_; rintro e w2 ⟨rfl,hb2⟩
     obtain ⟨W2,hW2⟩:∃ V,w2.alloc (.cells #[.int .i64 f.ty,.int .i64 0,.string ⟨#[]⟩] 42)=V:=⟨_,rfl⟩
     have hb3:=b_more hb2 (.cells #[.int .i64 f.ty,.int .i64 0,.string ⟨#[]⟩] 42)
     rw [hW2] at hb3
     obtain ⟨k0,k1,k2,k3,k4,k5,k6,k7,k8⟩:=HCell.out W2 hb3
     have HB3:=Lib.hid hb3
     have HW2:=Lib.hid hW2
     clear hb2 hb3 hW2
     go_upto_region 7 with fail
     rw [HW2.out]
     go_wp2_with fail
     refine (HCk.out _ HB3.out).mono ?_; rintro e w4 ⟨rfl,hb4⟩
     have HB4:=Lib.hid (b_trans HB0.out (b_trans HB3.out hb4))
     clear hb4
     go_wp2_with fail
     go_ret
     exact ⟨rfl,HB4.out⟩
 ·rw [if_pos h1] at hR
  subst hR
  have t1:(ne != 0)=true:=by simpa using h1
  clear h1
  go_enter Tryz.func68,Tryz.ntmps68
  go_wp2_with fail
  rw [HW.out]
  refine (HNm.out _).mono ?_; rintro e w1 ⟨rfl,rfl⟩
  go_wp2_with fail
  go_ret
  exact ⟨rfl,HB0.out⟩
end FldR
namespace FldC
open Go.RowKit
open ValM LexM NumM ExM Kit ExL ExN ExC RawV Within RawL GenL FldP FldR TyM Ty TyO
set_option linter.unusedVariables false
def scan (P:Nat->Int):Nat->Int
 | 0 => 0
 | n + 1 => if scan P n=0 then P n else scan P n
theorem scan_zero {P:Nat->Int}:∀ (n:Nat),(∀ j,j < n->P j=0)->scan P n=0
 | 0,_ => rfl
 | n + 1,h => by
  unfold scan
  rw [if_pos (scan_zero n fun j hj => h j (by omega))]
  exact h n (by omega)
theorem scan_stop {P:Nat->Int}:∀ (n k:Nat),k < n->(∀ j,j < k->P j=0)->P k ≠ 0->scan P n=P k
 | n + 1,k,hk,h,h0 => by
  unfold scan
  by_cases e:k=n
  ·subst e
   rw [if_pos (scan_zero k h)]
  ·have:=scan_stop n k (by omega) h h0
   rw [this,if_neg h0]
def ownE (fs:List GenL.Fd) (X:Nat->Ex) (k:Nat):Int :=
 if h:k < fs.length then (if rightE fs[k] (X k)=0 then (if atF fs fs[k].nm < k then 6 else 0) else rightE fs[k] (X k)) else 0
def srcE (fs:List GenL.Fd) (f:GenL.Fd) (x:Ex):Int:=if f.kind=2 then fitsT (fts fs) x f.ty else if f.kind=3 then (ofT (fts fs) x).2 else 0
def typE (fs:List GenL.Fd) (X:Nat->Ex) (k:Nat):Int:=if h:k < fs.length then srcE fs fs[k] (X k) else 0
def checkF (fs:List GenL.Fd) (X:Nat->Ex):Int :=
 if 14 < fs.length then 1 else if scan (ownE fs X) fs.length=0 then scan (typE fs X) fs.length else scan (ownE fs X) fs.length
def Forms (w:World) (fs:List GenL.Fd) (X:Nat->Ex):Prop:=∀ (k:Nat) (h:k < fs.length),fs[k].nm.size<=maxLen/\Is w (X k) fs[k].d fs[k].A fs[k].n
theorem Forms.below {w w':World} {fs:List GenL.Fd} {X:Nat->Ex} (h:Forms w fs X) (hb:Below w.heap.size w w'):Forms w' fs X:=fun k hk => ⟨(h k hk).1,(h k hk).2.below hb⟩
set_option maxHeartbeats 4000000 in
theorem checkType_any (f:GenL.Fd) (x:Ex) (fs:List GenL.Fd) (FA:Option Addr) (fc:Nat) (w:World) (hm:fs.length<=1000000000000) (his:Is w x f.d f.A f.n) (hf:Flds w FA fs) (hT:Tab w) :
  Calls Tryz.prog 70 #[.agg #[.string f.nm,.int .i64 f.kind,.int .i64 f.ty,.int .i64 f.d.op,.int .i64 f.d.k,.int .i64 f.d.n,.string f.d.s,.string f.d.nm,.slice f.A f.n f.c],.slice FA fs.length fc] w fun e w' => e=.returned (.int .i64 (srcE fs f x))/\Below w.heap.size w w':=by
 obtain ⟨R,hR⟩:∃ R,srcE fs f x=R:=⟨_,rfl⟩
 rw [hR]
 obtain ⟨W,hW⟩:∃ W,w.alloc (.cells #[.string f.nm,.int .i64 f.kind,.int .i64 f.ty,.int .i64 f.d.op,.int .i64 f.d.k,.int .i64 f.d.n,.string f.d.s,.string f.d.nm,.slice f.A f.n f.c] 47)=W:=⟨_,rfl⟩
 have hb0:=b_new w (.cells #[.string f.nm,.int .i64 f.kind,.int .i64 f.ty,.int .i64 f.d.op,.int .i64 f.d.k,.int .i64 f.d.n,.string f.d.s,.string f.d.nm,.slice f.A f.n f.c] 47)
 have hcell:=head_cells w f
 unfold rightHead at hcell
 rw [hW] at hb0 hcell
 have hc1:∀ V:World,Below W.heap.size W V->Calls Tryz.prog 52 #[.agg #[.int .i64 f.d.op,.int .i64 f.d.k,.int .i64 f.d.n,.string f.d.s,.string f.d.nm,.slice f.A f.n f.c],.slice FA fs.length fc,.int .i64 f.ty] V fun e w' => e=.returned (.int .i64 (fitsT (fts fs) x f.ty))/\Below V.heap.size V w':=fun V hV =>
  fits_any x fs FA fc f.ty f.d f.A f.n f.c V hm (his.below (b_trans hb0 hV)) (hf.below (b_trans hb0 hV)) (hT.below (b_trans hb0 hV))
 have hc2:∀ V:World,Below W.heap.size W V->Calls Tryz.prog 84 #[.agg #[.int .i64 f.d.op,.int .i64 f.d.k,.int .i64 f.d.n,.string f.d.s,.string f.d.nm,.slice f.A f.n f.c],.slice FA fs.length fc] V fun e w' => e=.returned (.tuple #[.int .i64 (ofT (fts fs) x).1,.int .i64 (ofT (fts fs) x).2])/\Below V.heap.size V w':=fun V hV =>
  of_any x fs FA fc f.d f.A f.n f.c V hm (his.below (b_trans hb0 hV)) (hf.below (b_trans hb0 hV)) (hT.below (b_trans hb0 hV))
 unfold srcE at hR
 generalize fitsT (fts fs) x f.ty=r1 at hc1 hR
 generalize (ofT (fts fs) x).1=r2 at hc2
 generalize (ofT (fts fs) x).2=r3 at hc2 hR
 have HB0:=Lib.hid hb0
 have HW:=Lib.hid hW
 have H1:=Lib.hid (hc1 W (Below.refl _ _))
 have H2:=Lib.hid (hc2 W (Below.refl _ _))
 obtain ⟨q0,q1,q2,q3,q4,q5,q6,q7,q8⟩:=hcell W (Below.refl _ _)
 clear hb0 hcell hW hc1 hc2 his hf hT
 by_cases h2:f.kind=2
 ·rw [if_pos h2] at hR
  subst hR
  have t2:(f.kind == 2)=true:=beq_iff_eq.2 h2
  clear h2
  go_enter Tryz.func70,Tryz.ntmps70
  go_wp2_with fail
  rw [HW.out]
  go_wp2_with fail
  refine H1.out.mono ?_; rintro e w1 ⟨rfl,hb1⟩
  have HB1:=Lib.hid (b_trans HB0.out hb1)
  clear hb1
  go_wp2_with fail
  go_ret
  exact ⟨rfl,HB1.out⟩
 ·have t2:(f.kind == 2)=false:=beq_eq_false_iff_ne.2 h2
  rw [if_neg h2] at hR
  clear h2
  by_cases h3:f.kind=3
  ·rw [if_pos h3] at hR
   subst hR
   have t3:(f.kind == 3)=true:=beq_iff_eq.2 h3
   clear h3
   go_enter Tryz.func70,Tryz.ntmps70
   go_wp2_with fail
   rw [HW.out]
   go_wp2_with fail
   refine H2.out.mono ?_; rintro e w1 ⟨rfl,hb1⟩
   have HB1:=Lib.hid (b_trans HB0.out hb1)
   clear hb1
   go_wp2_with fail
   go_ret
   exact ⟨rfl,HB1.out⟩
  ·have t3:(f.kind == 3)=false:=beq_eq_false_iff_ne.2 h3
   rw [if_neg h3] at hR
   subst hR
   clear h3
   go_enter Tryz.func70,Tryz.ntmps70
   go_wp2_with fail
   rw [HW.out]
   go_wp2_with fail
   go_ret
   exact ⟨rfl,HB0.out⟩
set_option maxHeartbeats 8000000 in
set_option maxRecDepth 100000 in
theorem check_any (fs:List GenL.Fd) (X:Nat->Ex) (FA:Option Addr) (fc:Nat) (w:World) (hm:fs.length<=1000000000000) (hf:Flds w FA fs) (hX:Forms w fs X) (hT:Tab w) (hcap:fs.length<=fc/\fc<=maxLen) :
  Calls Tryz.prog 43 #[.slice FA fs.length fc] w fun e w' => e=.returned (.int .i64 (checkF fs X))/\Below w.heap.size w w':=by
 obtain ⟨R,hR⟩:∃ R,checkF fs X=R:=⟨_,rfl⟩
 rw [hR]
 unfold checkF at hR
 have HF:=Lib.hid hf
 have HX:=Lib.hid hX
 have HT:=Lib.hid hT
 clear hf hX hT
 by_cases hl:14 < fs.length
 ·rw [if_pos hl] at hR
  subst hR
  have tl:(14:Int) < (fs.length:Int):=by omega
  go_enter Tryz.func43,Tryz.ntmps43
  go_wp2_with fail
  go_ret
  exact ⟨rfl,Below.refl _ _⟩
 ·rw [if_neg hl] at hR
  have tl:¬ (14:Int) < (fs.length:Int):=by omega
  have hown:∀ k,k < fs.length->(∀ j,j < k->ownE fs X j=0)->ownE fs X k ≠ 0->R=ownE fs X k:=fun k hk h h0 => by
   have e:=scan_stop fs.length k hk h h0
   rw [e,if_neg h0] at hR; exact hR.symm
  have htyp:(∀ j,j < fs.length->ownE fs X j=0)->∀ k,k < fs.length->(∀ j,j < k->typE fs X j=0)->typE fs X k ≠ 0->R=typE fs X k:=fun h1 k hk h h0 => by
   rw [scan_zero _ h1,if_pos rfl,scan_stop fs.length k hk h h0] at hR; exact hR.symm
  have hall:(∀ j,j < fs.length->ownE fs X j=0)->(∀ j,j < fs.length->typE fs X j=0)->R=0:=fun h1 h2 => by
   rw [scan_zero _ h1,if_pos rfl,scan_zero _ h2] at hR; exact hR.symm
  have HOwn:=Lib.hid hown
  have HTyp:=Lib.hid htyp
  have HAll:=Lib.hid hall
  clear hown htyp hall hR
  go_enter Tryz.func43,Tryz.ntmps43
  go_wp2_with fail
  go_loopw [3,4,5,6,7,16] (fun _ _ _ _ _ ii wr => ∃ k:Nat,ii=.int .i64 k/\k<=fs.length/\(∀ j,j < k->ownE fs X j=0)/\Below w.heap.size w wr) (fun _ _ _ _ _ ii _ => fs.length - (intOf ii).toNat)
  case atStart => exact ⟨0,rfl,by omega,fun j hj => absurd hj (by omega),Below.refl _ _⟩
  case round =>
   obtain ⟨k,rfl,hk,hz,hb⟩:=hrel
   have HZ:=Lib.hid hz
   by_cases hlt:k < fs.length
   ·obtain ⟨ad,rfl,hat⟩:=HF.out k hlt
    obtain ⟨q0,q1,q2,q3,q4,q5,q6,q7,q8⟩:=hat.of_block (hb.block _ hat.lt)
    obtain ⟨hs,his⟩:=HX.out k hlt
    have hoe:ownE fs X k=(if rightE fs[k] (X k)=0 then (if atF fs fs[k].nm < k then 6 else 0) else rightE fs[k] (X k)):=by unfold ownE; rw [dif_pos hlt]
    have hown:=HOwn.out k hlt hz
    have hnext:ownE fs X k=0->∀ j,j < k + 1->ownE fs X j=0:=fun e j hj => by
     by_cases h:j=k
     ·subst h; exact e
     ·exact hz j (by omega)
    obtain ⟨f,hfk⟩:∃ f,fs[k]=f:=⟨_,rfl⟩
    rw [hfk] at q0 q1 q2 q3 q4 q5 q6 q7 q8 hs his hoe
    obtain ⟨W5,hW5⟩:∃ V,wr.alloc (.cells #[.string f.nm,.int .i64 f.kind,.int .i64 f.ty,.int .i64 f.d.op,.int .i64 f.d.k,.int .i64 f.d.n,.string f.d.s,.string f.d.nm,.slice f.A f.n f.c] 47)=V:=⟨_,rfl⟩
    obtain ⟨B9,hB9⟩:∃ B,wr.heap.size=B:=⟨_,rfl⟩
    have hb5:=b_more hb (.cells #[.string f.nm,.int .i64 f.kind,.int .i64 f.ty,.int .i64 f.d.op,.int .i64 f.d.k,.int .i64 f.d.n,.string f.d.s,.string f.d.nm,.slice f.A f.n f.c] 47)
    have hcell:=head_cells wr f
    unfold rightHead at hcell
    rw [hW5,hB9] at hcell
    rw [hW5] at hb5
    have hri:=right_any f (X k) W5 hs (his.below hb5) (HT.out.below hb5)
    have hat9:=atF_take (fs:=fs) (s:=f.nm) (Nat.le_of_lt hlt)
    have hfi:∀ V:World,Below w.heap.size w V->Calls Tryz.prog 69 #[.slice (some ad) k fc,.string f.nm] V fun e w' => e=.returned (.tuple #[.int .i64 (if atF (fs.take k) f.nm < k then (atF (fs.take k) f.nm:Int) else 0),.int .i64 (if atF fs f.nm < k then 0 else 5)])/\V=w':=fun V hV => by
     have:=find_any f.nm (fs.take k) (some ad) fc V ((FldP.Flds.take HF.out k).below hV) (by rw [List.length_take]; omega)
     have hlk:(fs.take k).length=k:=by rw [List.length_take]; omega
     rw [hlk] at this
     simp only [hat9] at this ⊢
     exact this
    generalize (if atF (fs.take k) f.nm < k then (atF (fs.take k) f.nm:Int) else 0)=zz at hfi
    generalize rightE f (X k)=re at hri hoe
    obtain ⟨dup,hdup⟩:∃ b:Prop,(atF fs f.nm < k)=b:=⟨_,rfl⟩
    have HRi:=Lib.hid hri
    have HFi:=Lib.hid hfi
    have HCell:=Lib.hid hcell
    have HW5:=Lib.hid hW5
    have HB9:=Lib.hid hB9
    have HB5:=Lib.hid hb5
    have HOw:=Lib.hid hown
    have HNx:=Lib.hid hnext
    have HOe:=Lib.hid hoe
    have hk9:k<=14:=by omega
    have hkf:(k:Int)<=(fc:Int):=by omega
    have hk0:(0:Int)<=(k:Int):=by omega
    obtain ⟨k0,k1,k2,k3,k4,k5,k6,k7,k8⟩:=hcell W5 (Below.refl _ _)
    clear hri hfi hcell hW5 hB9 hb5 hown hnext hoe hz hb hat hs his hfk hat9 hdup
    go_wp2_with fail
    rw [HW5.out,HB9.out]
    go_wp2_with fail
    refine HRi.out.mono ?_; rintro e w6 ⟨rfl,hb6⟩
    obtain ⟨k0,k1,k2,k3,k4,k5,k6,k7,k8⟩:=HCell.out w6 hb6
    have HB6:=Lib.hid (b_trans HB5.out hb6)
    clear hb6
    by_cases h0:re=0
    ·subst h0
     have hfi6:∀ m,Calls Tryz.prog 69 #[.slice (some ad) k fc,.string f.nm] (w6.drewN m) fun e w' => e=.returned (.tuple #[.int .i64 zz,.int .i64 (if atF fs f.nm < k then 0 else 5)])/\w6.drewN m=w':=fun m => HFi.out _ (b_drewN HB6.out m)
     by_cases hd:atF fs f.nm < k
     ·have hoe:=HOe.out
      rw [if_pos rfl,if_pos hd] at hoe
      obtain rfl:=(HOw.out (by rw [hoe]; decide)).trans hoe
      simp only [if_pos hd] at hfi6
      have HF6:=Lib.hid hfi6
      clear hfi6 hoe hd
      go_wp2_with fail
      first | (go_quiet ((go_at_call 69; exact (HF6.out _).mono fun _ _ h => ⟨h.1,_,h.2.symm⟩))) | (fail)
      go_wp2_with fail
      go_ret
      exact ⟨rfl,b_drewN HB6.out _⟩
     ·have hoe:=HOe.out
      rw [if_pos rfl,if_neg hd] at hoe
      have hN:=HNx.out hoe
      have HN:=Lib.hid hN
      simp only [if_neg hd] at hfi6
      have HF6:=Lib.hid hfi6
      clear hfi6 hoe hd hN
      go_wp2_with fail
      first | (go_quiet ((go_at_call 69; exact (HF6.out _).mono fun _ _ h => ⟨h.1,_,h.2.symm⟩))) | (fail)
      go_wp2_with fail
      go_roundw
      case rel => exact ⟨k + 1,by go_num,by omega,HN.out,b_drewN HB6.out _⟩
      case measure => simp [intOf]; omega
    ·have hoe:=HOe.out
     rw [if_neg h0] at hoe
     obtain rfl:=(HOw.out (by rw [hoe]; exact h0)).trans hoe
     have t1:(R != 0)=true:=by simpa using h0
     clear hoe h0
     go_wp2_with fail
     go_ret
     exact ⟨rfl,HB6.out⟩
   ·have hz1:∀ j,j < fs.length->ownE fs X j=0:=fun j hj => hz j (by omega)
    have HZ1:=Lib.hid hz1
    obtain ⟨Wp,rfl⟩:∃ V,V=wr:=⟨_,rfl⟩
    have HBp:=Lib.hid hb
    clear hz hz1 hb
    go_wp2_with fail
    go_loopw [9,10,40] (fun _ _ ii wr => ∃ k:Nat,ii=.int .i64 k/\k<=fs.length/\(∀ j,j < k->typE fs X j=0)/\Below w.heap.size w wr) (fun _ _ ii _ => fs.length - (intOf ii).toNat)
    case atStart => exact ⟨0,rfl,by omega,fun j hj => absurd hj (by omega),HBp.out⟩
    case round =>
     obtain ⟨k,rfl,hk,hz,hb⟩:=hrel
     by_cases hlt:k < fs.length
     ·obtain ⟨ad,rfl,hat⟩:=HF.out k hlt
      obtain ⟨q0,q1,q2,q3,q4,q5,q6,q7,q8⟩:=hat.of_block (hb.block _ hat.lt)
      obtain ⟨hs,his⟩:=HX.out k hlt
      have hoe:typE fs X k=srcE fs fs[k] (X k):=by unfold typE; rw [dif_pos hlt]
      have htyp:=HTyp.out HZ1.out k hlt hz
      have hnext:typE fs X k=0->∀ j,j < k + 1->typE fs X j=0:=fun e j hj => by
       by_cases h:j=k
       ·subst h; exact e
       ·exact hz j (by omega)
      obtain ⟨f,hfk⟩:∃ f,fs[k]=f:=⟨_,rfl⟩
      rw [hfk] at q0 q1 q2 q3 q4 q5 q6 q7 q8 hs his hoe
      obtain ⟨W5,hW5⟩:∃ V,wr.alloc (.cells #[.string f.nm,.int .i64 f.kind,.int .i64 f.ty,.int .i64 f.d.op,.int .i64 f.d.k,.int .i64 f.d.n,.string f.d.s,.string f.d.nm,.slice f.A f.n f.c] 47)=V:=⟨_,rfl⟩
      obtain ⟨B9,hB9⟩:∃ B,wr.heap.size=B:=⟨_,rfl⟩
      have hb5:=b_more hb (.cells #[.string f.nm,.int .i64 f.kind,.int .i64 f.ty,.int .i64 f.d.op,.int .i64 f.d.k,.int .i64 f.d.n,.string f.d.s,.string f.d.nm,.slice f.A f.n f.c] 47)
      have hcell:=head_cells wr f
      unfold rightHead at hcell
      rw [hW5,hB9] at hcell
      rw [hW5] at hb5
      have hct:=checkType_any f (X k) fs (some ad) fc W5 hm (his.below hb5) (HF.out.below hb5) (HT.out.below hb5)
      rw [← hoe] at hct
      generalize typE fs X k=te at hct htyp hnext
      have HCt:=Lib.hid hct
      have HW5:=Lib.hid hW5
      have HB9:=Lib.hid hB9
      have HB5:=Lib.hid hb5
      have HTy:=Lib.hid htyp
      have HNx:=Lib.hid hnext
      have hk9:k<=14:=by omega
      obtain ⟨k0,k1,k2,k3,k4,k5,k6,k7,k8⟩:=hcell W5 (Below.refl _ _)
      clear hct hcell hW5 hB9 hb5 htyp hnext hoe hz hb hat hs his hfk
      go_wp2_with fail
      rw [HW5.out,HB9.out]
      go_wp2_with fail
      refine HCt.out.mono ?_; rintro e w6 ⟨rfl,hb6⟩
      have HB6:=Lib.hid (b_trans HB5.out hb6)
      clear hb6
      by_cases h0:te=0
      ·subst h0
       have HN:=Lib.hid (HNx.out rfl)
       go_wp2_with fail
       go_roundw
       case rel => exact ⟨k + 1,by go_num,by omega,HN.out,HB6.out⟩
       case measure => simp [intOf]; omega
      ·obtain rfl:=HTy.out h0
       have t1:(R != 0)=true:=by simpa using h0
       clear h0
       go_wp2_with fail
       go_ret
       exact ⟨rfl,HB6.out⟩
     ·obtain rfl:=HAll.out HZ1.out fun j hj => hz j (by omega)
      have HB6:=Lib.hid hb
      clear hz hb
      go_wp2_with fail
      go_ret
      exact ⟨rfl,HB6.out⟩
end FldC
namespace NmP
open Go.RowKit Go.Shelf
open ExM NmM Kit ExL ExP ExV ExN NmC
set_option linter.unusedVariables false
end NmP
namespace NmR
open Go.RowKit
open ExM NmM Kit ExL ExP ExV ExN NmC NmP
set_option linter.unusedVariables false
theorem app_keep {V W':World} {o:Obj} {b:Nat} {row:Option Nat} (hg:(V.alloc o).grownBy W' row) (hl:b < V.heap.size) (hne:some b ≠ row):W'.heap[b]?=V.heap[b]? :=
 (hg.block b (by simp; omega) hne).trans ((b_new V o).block b hl)
theorem own_base {w:World} {base b2:Nat} {e:TypeId} {size:Nat} {v:Value} {n:Nat} {xs:List Value} (h:w.ownsRow base e size v n xs) (hb:b2<=base):w.ownsRow b2 e size v n xs:=by
 refine ⟨h.1,?_⟩
 rcases h.2 with h2 | ⟨g,cap,cur,h1,h2,h3⟩
 ·exact .inl h2
 ·exact .inr ⟨g,cap,cur,h1,by omega,h3⟩
end NmR
namespace NmA
open Go.RowKit
open ExM NmM Kit ExL ExP ExV NmC NmP NmR
set_option linter.unusedVariables false
def strV (L:List ByteArray):List Value:=L.map Value.string
theorem strV_len (L:List ByteArray):(strV L).length=L.length:=List.length_map _
theorem strV_append (L M:List ByteArray):strV (L ++ M)=strV L ++ strV M:=List.map_append
theorem infoStr:(Tryz.prog.info? 9).map (fun i => (i.zero,i.size,i.bytes))=some (some (.string ⟨#[]⟩),1,16):=by kernel_rfl
def SRow (w:World) (A:Option Addr) (L:List ByteArray):Prop:=∀ (j:Nat) (h:j < L.length),∃ g,A=some ⟨g,0,none⟩/\w.cell? ⟨g,j,none⟩=some (.string L[j])
theorem SRow.of_own {w:World} {base:Nat} {v:Value} {L:List ByteArray} (h:w.ownsRow base 9 1 v L.length (strV L)):∃ A c,v=.slice A L.length c/\SRow w A L:=by
 rcases h.2 with ⟨h1,h2⟩ | ⟨g,cap,cur,h1,_⟩
 ·exact ⟨none,0,by rw [h1,h2],fun j hj => by omega⟩
 ·subst h1
  refine ⟨some ⟨g,0,none⟩,cap,rfl,fun j hj => ⟨g,rfl,?_⟩⟩
  rw [h.cellAt j (by omega),List.getElem?_eq_getElem (by rw [strV_len]; exact hj)]
  unfold strV; rw [List.getElem_map]
end NmA
namespace NmT
open Go.RowKit
open ExM NmM Kit ExL ExP ExV NmC NmP NmR NmA
set_option linter.unusedVariables false
end NmT
namespace SMp
open Go.RowKit Go.Maps Kit
set_option linter.unusedVariables false
def hv (v:Value):Option (DataW Value × List MemPlace):=some (.held v,[])
theorem strKeyed:Keyed Tryz.prog 9:=string_keyed Tryz.underlying9
theorem keyS {s:ByteArray} (h:s.size<=maxLen):keyOf Tryz.prog 9 (.string s)=some (.string s.data.toList):=WideMaps.keyOf_string_mk Tryz.underlying9 h
theorem bytes_inj {s t:ByteArray} (h:s.data.toList=t.data.toList):s=t:=by
 cases s; cases t; congr; exact Array.toList_inj.1 h
def Reads (D:DataW Value) (M:ByteArray->Option Value):Prop:=∀ s:ByteArray,has D (.string s.data.toList)=(M s).isSome/\∀ v,M s=some v->∀ z,D.atKey (.string s.data.toList) z=.held v
structure SM (W:World) (m n:Nat) (M:ByteArray->Option Value):Prop where
 own:∃ D,W.ownsMap Tryz.prog 9 hv m n D/\Reads D M
theorem SM.made (w:World):SM (w.alloc (.map #[] 0)) w.heap.size 0 (fun _ => none):=⟨_,World.ownsMap_made w _ _ _,fun s => ⟨rfl,fun v h => by cases h⟩⟩
theorem SM.lt {W:World} {m n:Nat} {M:ByteArray->Option Value} (h:SM W m n M):m < W.heap.size:=by
 obtain ⟨D,hD,_⟩:=h.own
 exact hD.lt
theorem SM.kept {W W':World} {m n:Nat} {M:ByteArray->Option Value} {row:Option Nat} (h:SM W m n M) (hg:W.grownBy W' row) (hne:some m ≠ row):SM W' m n M:=by
 obtain ⟨D,hD,hall⟩:=h.own
 exact ⟨D,hD.kept hg hne,hall⟩
theorem grown_of_below {W W':World} (hb:Below W.heap.size W W'):W.grownBy W' none:=⟨hb.os,hb.tape,hb.output,hb.size,fun k hk _ => hb.block k hk⟩
theorem SM.below {W W':World} {m n:Nat} {M:ByteArray->Option Value} (h:SM W m n M) (hb:Below W.heap.size W W'):SM W' m n M:=h.kept (grown_of_below hb) (by simp)
theorem SM.alloc {W:World} {m n:Nat} {M:ByteArray->Option Value} (h:SM W m n M) (o:Obj):SM (W.alloc o) m n M:=h.kept (World.grownBy_alloc W o none) (by simp)
theorem SM.mono {W:World} {m n n':Nat} {M:ByteArray->Option Value} (h:SM W m n M) (hn:n<=n'):SM W m n' M:=by
 obtain ⟨D,hD,hall⟩:=h.own
 exact ⟨D,hD.mono hn,hall⟩
theorem SM.to {W:World} {m n:Nat} {M M':ByteArray->Option Value} (h:SM W m n M) (e:∀ s,M s=M' s):SM W m n M':=by
 obtain rfl:M=M':=funext e
 exact h
set_option maxRecDepth 100000 in
theorem look_gen {W:World} {m n:Nat} {M:ByteArray->Option Value} (c:Bool) (h:SM W m n M) {T te:TypeId} (ht:Tryz.prog.underlying T=some (.map 9 te)) {z:Value} (hz:(zeroValue te).run Tryz.prog W=.ok z W) (s:ByteArray) (hs:s.size<=maxLen) :
  (Instr.lookup T (.map (some m)) (.string s) c).run Tryz.prog W=.ok (if c then .tuple #[(M s).getD z,.bool (M s).isSome] else (M s).getD z) W:=by
 obtain ⟨D,hD,hall⟩:=h.own
 obtain ⟨hh,hat⟩:=hall s
 obtain ⟨es,clock,hb,F,_,rfl⟩:=hD
 rcases Maps.fit_look c strKeyed ht hz hb F (keyS hs) with ⟨hrun,_,h1⟩ | ⟨q,y,_,_,hrun,hRv,h1,_⟩
 ·rw [has_false_of_atKey h1] at hh
  rcases hf:M s with _ | v
  ·rw [hrun]; cases c <;> rfl
  ·rw [hf] at hh; cases hh
 ·rw [has_true_of_atKey h1] at hh
  rcases hf:M s with _ | v
  ·rw [hf] at hh; cases hh
  ·have e1:=(hat v hf .nil).symm.trans (h1 .nil)
   have hy:hv q.val=some y:=hRv
   unfold hv at hy
   injection hy with hy
   subst hy
   injection e1 with e1
   subst e1
   rw [hrun]; cases c <;> rfl
theorem SM.look {W:World} {m n:Nat} {M:ByteArray->Option Value} (h:SM W m n M) {T te:TypeId} (ht:Tryz.prog.underlying T=some (.map 9 te)) {z:Value} (hz:(zeroValue te).run Tryz.prog W=.ok z W) (s:ByteArray) (hs:s.size<=maxLen) :
  (Instr.lookup T (.map (some m)) (.string s) true).run Tryz.prog W=.ok (.tuple #[(M s).getD z,.bool (M s).isSome]) W:=look_gen true h ht hz s hs
theorem Reads.put {D:DataW Value} {M:ByteArray->Option Value} (h:Reads D M) (hm:IsMap D) (s:ByteArray) (v:Value):Reads (D.put (.string s.data.toList) (.held v)) (fun t => if t=s then some v else M t):=fun t => by
 by_cases he:t=s
 ·subst he
  simp only [if_pos trivial]
  exact ⟨has_put_same (k:=.string t.data.toList) hm (by trivial) _,fun u hu z => by injection hu with hu; subst hu; exact atKey_put_same (k:=.string t.data.toList) hm (by trivial) _ _⟩
 ·simp only [if_neg he]
  have hne:Lit.string t.data.toList ≠ Lit.string s.data.toList:=fun e => he (bytes_inj (by injection e))
  exact ⟨(has_put_other hne _).trans (h t).1,fun u hu z => (atKey_put_other hne _ _).trans ((h t).2 u hu z)⟩
theorem SM.put {W:World} {m n:Nat} {M:ByteArray->Option Value} (h:SM W m n M) {T te:TypeId} (ht:Tryz.prog.underlying T=some (.map 9 te)) (s:ByteArray) (hs:s.size<=maxLen) (v:Value) (hn:n < maxLen) :
  ∃ w',(Instr.mapUpdate T (.map (some m)) (.string s) v).run Tryz.prog W=.ok () w'/\SM w' m (n + 1) (fun t => if t=s then some v else M t)/\W.grownBy w' (some m):=by
 obtain ⟨D,hD,hall⟩:=h.own
 obtain ⟨w',hrun,r1,r2⟩:=hD.update strKeyed ht hn (keyS hs) (val:=v) (d:=.held v) (ps:=[]) rfl
 exact ⟨w',hrun,⟨_,r1,hall.put hD.isMap s v⟩,r2⟩

end SMp
end Go.Proofs.YtjhhmdmmllblhaaGreatDoor
