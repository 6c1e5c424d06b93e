/- RawValue GenLeaf ShowMath ParseMath PrintMath: what these laws name of them. -/
import Derived.Test.YtepikijjagoehaaGreatDoorChecked
import Derived.WalkKit
import Derived.ProofKit
import Derived.Lib.ConvBytes
import Derived.Lib.AtoiErrMem
import Derived.Laws.IdiomStrings
import Derived.WalkSpells
import Derived.WalkLawsBesides
import Derived.Outline
import Derived.Lib.Hide
import Derived.Deep.LoopGhost
import Derived.Below
import Derived.Deep.Draws
import GoSem.Claim
import Derived.Lib.Bytealg
import Derived.Lib.Small
import Derived.Lib.AtoiAll
import Derived.RangeFuncBox
import Derived.Deep.RegionHeld3
import Derived.Deep.AppendLies
import Derived.Deep.RegionLaw
import Derived.OwnWalk
import Derived.Deep.RegionWith
import Derived.RegionTactic
import Derived.BigRegion
import Derived.Laws.OwnMore
import Derived.Laws.Pointers
import Derived.Test.YtepikijjagoehaaGreatDoorProg
import Derived.IntWalk
import Derived.ChangeAlike
import Derived.Lib.UnsafeStr
import Derived.Lib.ItoaNum
import Derived.Lib.AtoiTie
import Derived.Lib.ItoaMem
import Derived.LaidLaws
import Derived.ChangeArms
import Derived.Lib.LaidTab
import Derived.ChangeOld
import Derived.WideShapes
import Derived.Test.YtepikijjagoehaaGreatDoorKuT01
namespace Go.Proofs.YtepikijjagoehaaGreatDoor
set_option linter.unusedVariables false
namespace Within
open Go.RowKit
set_option linter.unusedVariables false
theorem ret_int {k:IntKind} {a b:Int} (h:a=b):Ending.returned (.int k a)=.returned (.int k b):=by rw [h]
def pick (n many:Int):Int:=(if n < 0 then -(n + 1) else n) % many
theorem pick_bd (n many:Int) (h:0 < many):0<=pick n many/\pick n many < many :=
 ⟨Int.emod_nonneg _ (by omega),Int.emod_lt_of_pos _ h⟩
theorem picked_any (n many:Int) (w:World) (hn:(Lit.int .i64 n).wf=true) (h:0 < many) (h2:many<=9223372036854775807) :
  Calls Tryz.prog 17 #[.int .i64 n,.int .i64 many] w fun e w' => e=.returned (.int .i64 (pick n many))/\w=w':=by
 obtain ⟨b1,b2⟩:-9223372036854775808<=n/\n<=9223372036854775807:=by
  have hh:=hn
  have hmin:IntKind.i64.min=-9223372036854775808:=rfl
  have hmax:IntKind.i64.max=9223372036854775807:=rfl
  simp only [Lit.wf,Bool.and_eq_true,decide_eq_true_eq] at hh
  omega
 clear hn
 by_cases hs:n < 0
 ·obtain ⟨p,hp⟩:∃ p,pick n many=p:=⟨_,rfl⟩
  rw [hp]
  unfold pick at hp
  rw [if_pos hs] at hp
  have HP:Hid (-(n + 1) % many=p):=hp
  clear hp
  go_enter Tryz.func17,Tryz.ntmps17
  go_wp2
  go_ret
  exact ⟨ret_int (by rw [← Int.neg_tmod,Int.tmod_eq_emod_of_nonneg (by omega)]; exact HP.out),rfl⟩
 ·obtain ⟨p,hp⟩:∃ p,pick n many=p:=⟨_,rfl⟩
  rw [hp]
  unfold pick at hp
  rw [if_neg hs] at hp
  have HP:Hid (n % many=p):=hp
  clear hp
  go_enter Tryz.func17,Tryz.ntmps17
  go_wp2
  go_ret
  exact ⟨ret_int (by first | rfl | exact HP.out),rfl⟩
end Within
namespace Clean
open Go.RowKit Go.Lib
open Kit
set_option linter.unusedVariables false
def cl (c:UInt8):UInt8:=UInt8.ofNat (32 + c.toNat % 95)
def cleanF (l:List UInt8) (m:Nat):List UInt8:=(l.take m).map cl
theorem conv (w:World) (t:ByteArray):∃ (W1:World) (cap:Nat),(convert 9 92 (.string t)).run Tryz.prog w=.ok (.slice (some ⟨w.heap.size,0,none⟩) t.size cap) W1 ∧
  (∀ j,j < t.size->W1.cell? ⟨w.heap.size,j,none⟩=some (.int .u8 (t.data.toList.getD j 0).toNat))/\(∀ j,j < t.size->W1.frozen? ⟨w.heap.size,j,none⟩=false)/\W1.heap.size=w.heap.size + 1/\Below w.heap.size w W1:=by
 refine ⟨_,_,Lib.run_convert_string_bytes (P:=Tryz.prog) w 9 92 5 t Tryz.underlying9 Tryz.underlying92 Tryz.underlying5,fun j hj => bytesWorld_cell w _ t j hj,fun j hj => ?_,bytesWorld_size w _ t,bytesWorld_below w _ t⟩
 have hle:t.size<=(bytesCells w 5 t).size:=by simp [bytesCells]
 simp only [World.frozen?,bytesWorld_at_new]
 simp
 omega
def turned (t:ByteArray) (k j:Nat):Value:=.int .u8 (if j < k then (cl (t.data.toList.getD j 0)).toNat else (t.data.toList.getD j 0).toNat:Nat)
theorem cl_val (c:UInt8):((cl c).toNat:Int)=32 + (c.toNat:Int) % 95:=by
 unfold cl
 have:(32 + c.toNat % 95) < 256:=by omega
 rw [UInt8.toNat_ofNat',Nat.mod_eq_of_lt (by simpa using this)]
 omega
structure Inv (B:Nat) (w:World) (t:ByteArray) (k:Nat) (wr:World):Prop where
 le:k<=t.size
 cell:∀ j,j < t.size->wr.cell? ⟨B,j,none⟩=some (turned t k j)
 free:∀ j,j < t.size->wr.frozen? ⟨B,j,none⟩=false
 below:Below B w wr
theorem Inv.step {B:Nat} {w:World} {t:ByteArray} {k:Nat} {wr:World} (h:Inv B w t k wr) (hk:k < t.size) :
  Inv B w t (k + 1) (wr.setCell ⟨B,k,none⟩ (.int .u8 (32 + ((t.data.toList.getD k 0).toNat:Int) % 95))) where
 le:=hk
 cell:=fun j hj => by
  by_cases e:j=k
  ·subst e
   rw [World.cell?_setCell_same _ _ _ (h.cell j hj)]
   unfold turned
   rw [if_pos (by omega),cl_val]
  ·rw [World.cell?_setCell_other _ _ _ _ (by intro g; apply e; simpa using g.symm),h.cell j hj]
   unfold turned
   by_cases g:j < k
   ·rw [if_pos g,if_pos (by omega)]
   ·rw [if_neg g,if_neg (by omega)]
 free:=fun j hj => by rw [World.frozen?_setCell]; exact h.free j hj
 below:=h.below.setCell (by simp) _
theorem core (s t:ByteArray) (m:Nat) (w:World) (hs:t.size<=1000) (hcase:(s.size<=m/\t=s) ∨ (m < s.size/\s.extract 0 m=t)) (hss:s.size<=9223372036854775807) (hm:m<=1000) :
  Calls Tryz.prog 121 #[.string s,.int .i64 m] w fun e w' => e=.returned (.string ⟨(t.data.toList.map cl).toArray⟩)/\Below w.heap.size w w':=by
 obtain ⟨W1,cap,hc,hcell,hfz,hsz,hbel⟩:=conv w t
 have h0:Inv w.heap.size w t 0 W1:=⟨Nat.zero_le _,fun j hj => by rw [hcell j hj]; unfold turned; rw [if_neg (by omega)],hfz,hbel⟩
 have H0:=Lib.hid h0
 clear hcell hfz hsz hbel h0
 rcases hcase with ⟨h1,rfl⟩ | ⟨h1,ht⟩
 all_goals
  go_enter Tryz.func121,Tryz.ntmps121
  go_wp2
  go_loopw [6,7,17] (fun _ _ i wr => ∃ k:Nat,i=.int .i64 k/\Inv w.heap.size w t k wr) (fun _ _ i _ => t.size - (intOf i).toNat)
  case atStart => exact ⟨0,rfl,H0.out⟩
  case round =>
   obtain ⟨k,rfl,hI⟩:=hrel
   by_cases hlt:k < t.size
   ·have hS:=Lib.hid (hI.step hlt)
    have hc1:=hI.cell k hlt
    have hf1:=hI.free k hlt
    have hv:turned t k k=.int .u8 ((t.data.toList.getD k 0).toNat:Nat):=by unfold turned; rw [if_neg (by omega)]
    rw [hv] at hc1
    obtain ⟨c,hcc⟩:∃ c:Nat,(t.data.toList.getD k 0).toNat=c:=⟨_,rfl⟩
    have hc256:c < 256:=by rw [← hcc]; exact (t.data.toList.getD k 0).toNat_lt
    rw [hcc] at hc1 hS
    clear hv hcc hI
    go_wp2
    go_roundw
    case rel => exact ⟨k + 1,by go_num,hS.out⟩
    case measure => simp [intOf]; omega
   ·have hk:k=t.size:=by have:=hI.le; omega
    have hback:(convert 92 9 (.slice (some ⟨w.heap.size,0,none⟩) t.size cap)).run Tryz.prog wr=.ok (.string ⟨(t.data.toList.map cl).toArray⟩) wr:=by
     have:=run_convert_bytes_back (P:=Tryz.prog) wr 92 9 5 ⟨w.heap.size,0,none⟩ cap (t.data.toList.map cl) Tryz.underlying92 Tryz.underlying5 Tryz.underlying9 (fun j hj => by
      have hj':j < t.size:=by simpa using hj
      have h2:=hI.cell j hj'
      unfold turned at h2
      rw [if_pos (by omega)] at h2
      have e:(⟨w.heap.size,0,none⟩:Addr).add j=⟨w.heap.size,j,none⟩:=by simp only [Addr.add]; simp; exact fun h => h.symm
      rw [e,h2]
      have h3:j < t.data.toList.length:=hj'
      simp [List.getD,List.getElem?_eq_getElem h3])
     have e2:(t.data.toList.map cl).length=t.size:=by simp
     rw [e2] at this
     exact this
    have hb:=hI.below
    clear hI H0
    subst hk
    go_wp2
    go_ret
    exact ⟨rfl,hb⟩
theorem clean_any (s:ByteArray) (m:Nat) (w:World) (hs:s.size<=maxLen) (hm:m<=1000) :
  Calls Tryz.prog 121 #[.string s,.int .i64 m] w fun e w' => e=.returned (.string ⟨(cleanF s.data.toList m).toArray⟩)/\Below w.heap.size w w':=by
 unfold maxLen at hs
 by_cases h:s.size<=m
 ·have:=core s s m w (by omega) (.inl ⟨h,rfl⟩) hs hm
  unfold cleanF
  rw [List.take_of_length_le h]
  exact this
 ·have e:(s.extract 0 m).data.toList=s.data.toList.take m:=by simp
  have:=core s (s.extract 0 m) m w (by simp; omega) (.inr ⟨by omega,rfl⟩) hs hm
  unfold cleanF
  rw [← e]
  exact this
end Clean
namespace RawV
open Go.RowKit
open Kit Clean Within NumM ValM
set_option linter.unusedVariables false
def vK (k:Int):Int:=if k=1 then 1 else if k=2 then 2 else 3
def vN (k rk ra:Int):Int:=if k=1 then (if pick rk 7=0 then pick ra 2199023255553 - 1099511627776 else pick ra 40 - 12) else if k=2 then pick ra 2 else 0
def vS (k:Int) (t:ByteArray):ByteArray:=if k=1 then ⟨#[]⟩ else if k=2 then ⟨#[]⟩ else ⟨(cleanF t.data.toList 8).toArray⟩
theorem clean_of (l:List UInt8) (m:Nat):cleanL (cleanF l m)=true:=by
 unfold cleanL cleanF
 rw [List.all_eq_true]
 intro c hc
 obtain ⟨d,_,rfl⟩:=List.mem_map.1 hc
 have:(cl d).toNat=32 + d.toNat % 95:=by have:=cl_val d; omega
 simp only [Bool.and_eq_true,decide_eq_true_eq]
 omega
theorem vK_type (k:Int):isT (vK k)=true:=by
 unfold vK isT
 by_cases h1:k=1
 ·rw [if_pos h1]; rfl
 ·rw [if_neg h1]
  by_cases h2:k=2
  ·rw [if_pos h2]; rfl
  ·rw [if_neg h2]; rfl
theorem v_known (k rk ra:Int) (t:ByteArray):knownB (vK k) (vN k rk ra) (vS k t).data.toList=true:=by
 have hz:valE (vK k) (vN k rk ra) (vS k t).data.toList=0:=by
  unfold vK vN vS
  by_cases h1:k=1
  ·simp only [if_pos h1]
   have a:=pick_bd ra 2199023255553 (by omega)
   have b:=pick_bd ra 40 (by omega)
   have:okN (if pick rk 7=0 then pick ra 2199023255553 - 1099511627776 else pick ra 40 - 12)=true:=by
    apply okN_iff.2
    by_cases g:pick rk 7=0
    ·rw [if_pos g]; omega
    ·rw [if_neg g]; omega
   unfold valE numE
   rw [if_pos rfl,if_pos this,if_pos rfl]; rfl
  ·simp only [if_neg h1]
   by_cases h2:k=2
   ·simp only [if_pos h2]
    have a:=pick_bd ra 2 (by omega)
    have e:numE 2 (pick ra 2)=0:=by unfold numE; rw [if_neg (by omega),if_pos rfl,if_pos (by omega)]
    unfold valE
    rw [if_pos e]; rfl
   ·simp only [if_neg h2]
    have e:numE 3 0=0:=rfl
    unfold valE
    rw [if_pos e]
    show strE 3 (cleanF t.data.toList 8)=0
    apply strE_clean
    ·unfold cleanF; rw [List.length_map,List.length_take]; omega
    ·exact clean_of _ _
 unfold knownB
 rw [vK_type,hz]; rfl
theorem value_any (k rk ra rb:Int) (t:ByteArray) (w:World) (h1:(Lit.int .i64 rk).wf=true) (h2:(Lit.int .i64 ra).wf=true) (h3:t.size<=maxLen) :
  Calls Tryz.prog 63 #[.int .i64 k,.agg #[.int .i64 rk,.int .i64 ra,.int .i64 rb,.string t]] w fun e w' => e=.returned (.agg #[.int .i64 (vK k),.int .i64 (vN k rk ra),.string (vS k t)])/\Below w.heap.size w w':=by
 by_cases e1:k=1
 ·subst e1
  have hv:vK 1=1/\vS 1 t=⟨#[]⟩:=⟨rfl,rfl⟩
  rw [hv.1,hv.2]
  clear hv
  obtain ⟨p,hp⟩:∃ p,pick rk 7=p:=⟨_,rfl⟩
  have c1:=fun W => picked_any rk 7 W h1 (by omega) (by omega)
  rw [hp] at c1
  have C1:=Lib.hid c1
  by_cases hp0:p=0
  ·have hn:vN 1 rk ra=pick ra 2199023255553 - 1099511627776:=by unfold vN; rw [if_pos rfl,hp,if_pos hp0]
   rw [hn]
   obtain ⟨q,hq⟩:∃ q,pick ra 2199023255553=q:=⟨_,rfl⟩
   have hb:=pick_bd ra 2199023255553 (by omega)
   have c2:=fun W => picked_any ra 2199023255553 W h2 (by omega) (by omega)
   rw [hq] at c2 hb ⊢
   obtain ⟨hb1,hb2⟩:=hb
   have C2:=Lib.hid c2
   subst hp0
   clear c1 c2 hp hq hn h1 h2
   go_enter Tryz.func63,Tryz.ntmps63
   go_wp2_with fail
   refine (C1.out _).mono ?_; rintro e w1 ⟨rfl,rfl⟩
   go_wp2_with fail
   refine (C2.out _).mono ?_; rintro e w1 ⟨rfl,rfl⟩
   go_wp2_with fail
   refine bodyPost_ret (v:=.agg #[.int .i64 1,.int .i64 (q - 1099511627776),.string ⟨#[]⟩]) (by simp [results,Tryz.results63,go_sem]) rfl ⟨rfl,b_more (b_new _ _) _⟩
  ·have hn:vN 1 rk ra=pick ra 40 - 12:=by unfold vN; rw [if_pos rfl,hp,if_neg hp0]
   rw [hn]
   obtain ⟨q,hq⟩:∃ q,pick ra 40=q:=⟨_,rfl⟩
   have hb:=pick_bd ra 40 (by omega)
   have c2:=fun W => picked_any ra 40 W h2 (by omega) (by omega)
   rw [hq] at c2 hb ⊢
   obtain ⟨hb1,hb2⟩:=hb
   have C2:=Lib.hid c2
   have hp1:(p == 0)=false:=beq_eq_false_iff_ne.2 hp0
   clear c1 c2 hp hq hn h1 h2 hp0
   go_enter Tryz.func63,Tryz.ntmps63
   go_wp2_with fail
   refine (C1.out _).mono ?_; rintro e w1 ⟨rfl,rfl⟩
   go_wp2_with fail
   refine (C2.out _).mono ?_; rintro e w1 ⟨rfl,rfl⟩
   go_wp2_with fail
   refine bodyPost_ret (v:=.agg #[.int .i64 1,.int .i64 (q - 12),.string ⟨#[]⟩]) (by simp [results,Tryz.results63,go_sem]) rfl ⟨rfl,b_more (b_new _ _) _⟩
 ·by_cases e2:k=2
  ·subst e2
   have hv:vK 2=2/\vS 2 t=⟨#[]⟩/\vN 2 rk ra=pick ra 2:=⟨rfl,rfl,rfl⟩
   rw [hv.1,hv.2.1,hv.2.2]
   clear hv
   obtain ⟨q,hq⟩:∃ q,pick ra 2=q:=⟨_,rfl⟩
   have c2:=fun W => picked_any ra 2 W h2 (by omega) (by omega)
   rw [hq] at c2 ⊢
   have C2:=Lib.hid c2
   clear c2 hq h1 h2 e1
   go_enter Tryz.func63,Tryz.ntmps63
   go_wp2_with fail
   refine (C2.out _).mono ?_; rintro e w1 ⟨rfl,rfl⟩
   go_wp2_with fail
   refine bodyPost_ret (v:=.agg #[.int .i64 2,.int .i64 q,.string ⟨#[]⟩]) (by simp [results,Tryz.results63,go_sem]) rfl ⟨rfl,b_more (b_new _ _) _⟩
  ·have hv:vK k=3/\vS k t=⟨(cleanF t.data.toList 8).toArray⟩/\vN k rk ra=0:=by
    unfold vK vS vN; simp [e1,e2]
   rw [hv.1,hv.2.1,hv.2.2]
   have c2:∀ W:World,Calls Tryz.prog 121 #[.string t,.int .i64 8] W fun e w' => e=.returned (.string ⟨(cleanF t.data.toList 8).toArray⟩)/\Below W.heap.size W w':=fun W => clean_any t 8 W h3 (by omega)
   obtain ⟨r,hr⟩:∃ r,ByteArray.mk (cleanF t.data.toList 8).toArray=r:=⟨_,rfl⟩
   rw [hr] at c2 ⊢
   have C2:=Lib.hid c2
   have k1:(k == 1)=false:=beq_eq_false_iff_ne.2 e1
   have k2:(k == 2)=false:=beq_eq_false_iff_ne.2 e2
   clear c2 hr h1 h2 h3 e1 e2 hv
   go_enter Tryz.func63,Tryz.ntmps63
   go_wp2_with fail
   refine (C2.out _).mono ?_; rintro e w1 ⟨rfl,hb1⟩
   obtain ⟨d0,d1⟩:=bcell hb1
   have hz:w.heap.size + 1 < w1.heap.size:=Nat.lt_of_lt_of_le (by simp) hb1.size
   go_wp2_with fail
   refine bodyPost_ret (v:=.agg #[.int .i64 3,.int .i64 0,.string r]) (by simp [results,Tryz.results63,go_sem,d0]) rfl ⟨rfl,(((b_then (b_then hb1)).setCell (by simp) _).setCell (by simp) _).setCell (by simp) _⟩
end RawV
namespace RawL
open Go.RowKit
open ValM LexM NumM ExM Kit ExL RawV Within
set_option linter.unusedVariables false
def Raws (w:World) (A:Option Addr) (n c:Nat):Prop :=
 n<=c/\c<=maxLen/\∀ i,i < n->∃ (a:Addr) (k x y:Int) (t:ByteArray),A=some a/\w.cell? (a.add (i * 4))=some (.int .i64 k)/\w.cell? ⟨(a.add (i * 4)).block,(a.add (i * 4)).off + 1,none⟩=some (.int .i64 x)/\w.cell? ⟨(a.add (i * 4)).block,(a.add (i * 4)).off + 2,none⟩=some (.int .i64 y)/\w.cell? ⟨(a.add (i * 4)).block,(a.add (i * 4)).off + 3,none⟩=some (.string t) ∧
  (Lit.int .i64 k).wf=true/\(Lit.int .i64 x).wf=true/\(Lit.int .i64 y).wf=true/\t.size<=maxLen
def Gen (w:World) (G:Nat) (A:Option Addr) (n c:Nat) (at_:Nat):Prop:=w.heap[G]?=some (.cells #[.slice A n c,.int .i64 (at_:Int)] 86 (0,0))
theorem Gen.cells {w:World} {G:Nat} {A:Option Addr} {n c a:Nat} (h:Gen w G A n c a):w.cell? ⟨G,0,none⟩=some (.slice A n c)/\w.cell? ⟨G,1,none⟩=some (.int .i64 (a:Int))/\w.frozen? ⟨G,1,none⟩=false:=by
 unfold Gen at h
 refine ⟨?_,?_,?_⟩ <;> simp [World.cell?,World.frozen?,h]
theorem Gen.lt {w:World} {G:Nat} {A:Option Addr} {n c a:Nat} (h:Gen w G A n c a):G < w.heap.size:=(Array.getElem?_eq_some_iff.1 h).1
theorem Gen.below {w w':World} {G:Nat} {A:Option Addr} {n c a:Nat} (h:Gen w G A n c a) (hb:Below w.heap.size w w'):Gen w' G A n c a:=(hb.block G h.lt).trans h
theorem Gen.alloc {w:World} {G:Nat} {A:Option Addr} {n c a:Nat} (h:Gen w G A n c a) (o:Obj):Gen (w.alloc o) G A n c a:=h.below (b_new w o)
theorem Gen.none2 {w:World} {G:Nat} {A:Option Addr} {n c a:Nat} (h:Gen w G A n c a) (j:Nat):w.cell? ⟨G,j + 2,none⟩=none:=by
 unfold Gen at h
 simp [World.cell?,h]
abbrev Gr (G:Nat) (w w':World):Prop:=w.grownBy w' (some G)
theorem Gr.of_below {G:Nat} {w w':World} (h:Below w.heap.size w w'):Gr G w w':=⟨h.os,h.tape,h.output,h.size,fun k hk _ => h.block k hk⟩
theorem Gr.refl (G:Nat) (w:World):Gr G w w:=Gr.of_below (Below.refl _ _)
theorem Gr.trans {G:Nat} {a b c:World} (h:Gr G a b) (g:Gr G b c):Gr G a c:=⟨g.os.trans h.os,g.tape.trans h.tape,g.output.trans h.output,Nat.le_trans h.size g.size,fun k hk hne => (g.block k (Nat.lt_of_lt_of_le hk h.size) hne).trans (h.block k hk hne)⟩
theorem Gen.step {w:World} {G:Nat} {A:Option Addr} {n c a:Nat} (h:Gen w G A n c a):Gen (w.setCell ⟨G,1,none⟩ (.int .i64 ((a:Int) + 1))) G A n c (a + 1)/\Gr G w (w.setCell ⟨G,1,none⟩ (.int .i64 ((a:Int) + 1))):=by
 refine ⟨?_,rfl,rfl,rfl,by simp [World.setCell],fun k _ hk => Below.heap_setCell _ _ _ k (fun e => hk (by rw [e]))⟩
 unfold Gen at h ⊢
 simp [World.setCell,Array.getElem?_modify,h]
end RawL
namespace GenL
open Go.RowKit
open ValM LexM NumM ExM Kit ExL RawV Within RawL
set_option linter.unusedVariables false
theorem own_below {w w1:World} {base:Nat} {e:TypeId} {size:Nat} {v:Value} {n:Nat} {xs:List Value} (h:w.ownsRow base e size v n xs) (hb:Below w.heap.size w w1):w1.ownsRow base e size v n xs :=
 h.kept (row:=none) ⟨hb.os,hb.tape,hb.output,hb.size,fun k hk _ => hb.block k hk⟩ (by cases hv:v.ownBlock <;> simp)
theorem own_slice {w:World} {base:Nat} {e:TypeId} {size:Nat} {v:Value} {n:Nat} {xs:List Value} (h:w.ownsRow base e size v n xs):∃ A c,v=.slice A n c:=by
 rcases h.2 with ⟨h1,h2⟩ | ⟨g,cap,cur,h1,_⟩
 ·exact ⟨none,0,by rw [h2]; exact h1⟩
 ·exact ⟨some ⟨g,0,none⟩,cap,h1⟩
theorem own_form {w:World} {base:Nat} {e:TypeId} {size:Nat} {v:Value} {n:Nat} {xs:List Value} (h:w.ownsRow base e size v n xs) (hn:0 < n) :
  ∃ g cap,v=.slice (some ⟨g,0,none⟩) n cap/\base<=g/\g < w.heap.size/\n<=cap/\cap<=maxLen/\∀ j,j < n * size->w.cell? ⟨g,j,none⟩=xs[j]?:=by
 rcases h.2 with ⟨_,h2⟩ | ⟨g,cap,cur,h1,h2,h3,h4,h5,_⟩
 ·omega
 ·subst h1
  have hl:=h.lt g rfl
  exact ⟨g,cap,rfl,h2,hl.2,h4,h5,fun j hj => h.cellAt j hj⟩
theorem b_set {w w1:World} {p:Addr} {v:Value} (h:Below w.heap.size w w1) (hp:w.heap.size<=p.block):Below w.heap.size w (w1.setCell p v):=h.setCell hp v
theorem known_int {n:Int} (h:okN n=true):knownB 1 n []=true:=by
 unfold knownB valE numE; rw [if_pos rfl,h]; rfl
structure Fd where
 nm:ByteArray
 kind:Int
 ty:Int
 d:Nd
 A:Option Addr
 n:Nat
 c:Nat
def FdAt (w:World) (p:Addr) (f:Fd):Prop :=
 w.cell? p=some (.string f.nm)/\w.cell? ⟨p.block,p.off + 1,none⟩=some (.int .i64 f.kind)/\w.cell? ⟨p.block,p.off + 2,none⟩=some (.int .i64 f.ty)/\w.cell? ⟨p.block,p.off + 3,none⟩=some (.int .i64 f.d.op)/\w.cell? ⟨p.block,p.off + 4,none⟩=some (.int .i64 f.d.k)/\w.cell? ⟨p.block,p.off + 5,none⟩=some (.int .i64 f.d.n)/\w.cell? ⟨p.block,p.off + 6,none⟩=some (.string f.d.s)/\w.cell? ⟨p.block,p.off + 7,none⟩=some (.string f.d.nm)/\w.cell? ⟨p.block,p.off + 8,none⟩=some (.slice f.A f.n f.c)
theorem FdAt.of_block {w w':World} {p:Addr} {f:Fd} (h:FdAt w p f) (hb:w'.heap[p.block]?=w.heap[p.block]?):FdAt w' p f:=by
 obtain ⟨h0,h1,h2,h3,h4,h5,h6,h7,h8⟩:=h
 exact ⟨(World.cell?_of_block hb).trans h0,(World.cell?_of_block (a:=⟨p.block,p.off + 1,none⟩) hb).trans h1,(World.cell?_of_block (a:=⟨p.block,p.off + 2,none⟩) hb).trans h2,(World.cell?_of_block (a:=⟨p.block,p.off + 3,none⟩) hb).trans h3,(World.cell?_of_block (a:=⟨p.block,p.off + 4,none⟩) hb).trans h4,(World.cell?_of_block (a:=⟨p.block,p.off + 5,none⟩) hb).trans h5,(World.cell?_of_block (a:=⟨p.block,p.off + 6,none⟩) hb).trans h6,(World.cell?_of_block (a:=⟨p.block,p.off + 7,none⟩) hb).trans h7,(World.cell?_of_block (a:=⟨p.block,p.off + 8,none⟩) hb).trans h8⟩
theorem FdAt.lt {w:World} {p:Addr} {f:Fd} (h:FdAt w p f):p.block < w.heap.size:=cell_lt' h.1
def Flds (w:World) (A:Option Addr) (fs:List Fd):Prop:=∀ (i:Nat) (h:i < fs.length),∃ a,A=some a/\FdAt w (a.add (i * 9)) fs[i]
theorem Flds.below {w w':World} {A:Option Addr} {fs:List Fd} (h:Flds w A fs) (hb:Below w.heap.size w w'):Flds w' A fs:=fun i hi => by
 obtain ⟨a,e,hf⟩:=h i hi
 exact ⟨a,e,hf.of_block (hb.block _ hf.lt)⟩
theorem Gr.flds {G:Nat} {w w':World} {A A':Option Addr} {fs:List Fd} {n' c' a:Nat} (h:Gr G w w') (hg:Gen w G A' n' c' a) (hf:Flds w A fs):Flds w' A fs:=fun i hi => by
 obtain ⟨ad,e,hf⟩:=hf i hi
 refine ⟨ad,e,hf.of_block (h.block _ hf.lt (fun e => ?_))⟩
 injection e with e
 have h2:=hf.2.2.1
 rw [e,hg.none2] at h2; cases h2
theorem Gen.far {w:World} {G:Nat} {A:Option Addr} {n c a:Nat} {p:Addr} (h:Gen w G A n c a) (hp:G ≠ p.block) (v:Value):Gen (w.setCell p v) G A n c a:=(Below.heap_setCell w p v G hp).trans h
theorem Gr.set {G:Nat} {w w1:World} {p:Addr} {v:Value} (h:Gr G w w1) (hp:w.heap.size<=p.block):Gr G w (w1.setCell p v) :=
 ⟨h.os,h.tape,h.output,by simp [World.setCell]; exact h.size,fun k hk hne => (Below.heap_setCell w1 p v k (by omega)).trans (h.block k hk hne)⟩
def LeafD (fs:List Fd) (kind:Int) (d:Nd):Prop :=
 (d.op=1/\d.nm=⟨#[]⟩/\d.k=vK kind/\knownB d.k d.n d.s.data.toList=true/\(d.k=1->0<=d.n)) ∨
 (d.op=2/\d.k=0/\d.n=0/\d.s=⟨#[]⟩/\∃ f ∈ fs,f.nm=d.nm/\f.ty=kind)
theorem infoStr:(Tryz.prog.info? 9).map (fun i => (i.zero,i.size,i.bytes))=some (some (.string ⟨#[]⟩),1,16):=by kernel_rfl
end GenL
namespace ShowM
open ValM
def escL (l:List UInt8):List UInt8:=l.flatMap fun c => if c=34 ∨ c=92 then [92,c] else [c]
def quoteL (l:List UInt8):List UInt8:=34 :: (escL l ++ [34])
def showL (k n:Int) (l:List UInt8):List UInt8 :=
 if k=2 then Lib.formatBool (decide (n=1)) else if k=3 then quoteL l else if k=4 then [63] else if k=5 then 33 :: Lib.itoa n else Lib.itoa n
theorem escL_snoc (l:List UInt8) (c:UInt8):escL (l ++ [c])=escL l ++ (if c=34 ∨ c=92 then [92,c] else [c]):=by
 unfold escL; rw [List.flatMap_append]; simp
theorem escL_len (l:List UInt8):(escL l).length<=2 * l.length:=by
 induction l with
 | nil => simp [escL]
 | cons c l ih =>
  have:escL (c :: l)=(if c=34 ∨ c=92 then [92,c] else [c]) ++ escL l:=by unfold escL; rw [List.flatMap_cons]
  rw [this,List.length_append,List.length_cons]
  split <;> simp <;> omega
theorem escL_step (s:ByteArray) (k:Nat) (h:k < s.size):escL (s.data.toList.take (k + 1))=escL (s.data.toList.take k) ++ (if s[k]=34 ∨ s[k]=92 then [92,s[k]] else [s[k]]):=by
 rw [take_snoc s k h,escL_snoc]
theorem escL_all (s:ByteArray) (k:Nat) (h:s.size<=k):escL (s.data.toList.take k)=escL s.data.toList:=by
 rw [List.take_of_length_le (by simpa using h)]
theorem byte_eq (c:UInt8) (n:Nat) (hn:n < 256):c=UInt8.ofNat n ↔ c.toNat=n:=by
 rw [← UInt8.toNat_inj,UInt8.toNat_ofNat',Nat.mod_eq_of_lt (by simpa using hn)]
theorem cells_snoc (l:List UInt8) (c:UInt8):Lib.byteCells l ++ [Value.int .u8 c.toNat]=Lib.byteCells (l ++ [c]):=by simp [Lib.byteCells]
theorem len_take (s:ByteArray) (k:Nat) (h:s.size<=1000):(Lib.byteCells (34 :: escL (s.data.toList.take k))).length<=2001:=by
 rw [Lib.byteCells_length,List.length_cons]
 have:=escL_len (s.data.toList.take k)
 have h2:(s.data.toList.take k).length<=s.size:=by rw [List.length_take,len_size]; omega
 omega
end ShowM
namespace ParseM
open ValM ShowM NumM
def unq:List UInt8->List UInt8
 | [] => []
 | [c] => if c=34 then [] else [c]
 | c :: d :: r => if c=34 then [] else if c=92 then d :: unq r else c :: unq (d :: r)
theorem unq_esc:∀ l:List UInt8,unq (escL l ++ [34])=l
 | [] => rfl
 | c :: l => by
  have e:escL (c :: l)=(if c=34 ∨ c=92 then [92,c] else [c]) ++ escL l:=by unfold escL; rw [List.flatMap_cons]
  rw [e]
  by_cases h:c=34 ∨ c=92
  ·rw [if_pos h]
   show unq (92 :: c :: (escL l ++ [34]))=c :: l
   rw [unq,if_neg (by decide),if_pos rfl,unq_esc l]
  ·rw [if_neg h]
   have h1:c ≠ 34:=fun g => h (.inl g)
   have h2:c ≠ 92:=fun g => h (.inr g)
   obtain ⟨d,r,hd⟩:∃ d r,escL l ++ [34]=d :: r:=by
    cases hh:escL l ++ [34] with
    | nil => simp at hh
    | cons d r => exact ⟨d,r,rfl⟩
   show unq (c :: (escL l ++ [34]))=c :: l
   rw [hd,unq,if_neg h1,if_neg h2,← hd,unq_esc l]
theorem drop_cons (s:ByteArray) (k:Nat) (h:k < s.size):s.data.toList.drop k=s[k] :: s.data.toList.drop (k + 1):=by
 rw [List.drop_eq_getElem_cons (show k < s.data.toList.length by rw [len_size]; exact h)]; rfl
theorem unq_step1 (s:ByteArray) (k:Nat) (h:k < s.size) (h1:s[k] ≠ 34) (h2:¬ (s[k]=92/\k + 1 < s.size)):unq (s.data.toList.drop k)=s[k] :: unq (s.data.toList.drop (k + 1)):=by
 rw [drop_cons s k h]
 by_cases g:k + 1 < s.size
 ·rw [drop_cons s (k + 1) g,unq,if_neg h1,if_neg (fun e => h2 ⟨e,g⟩)]
 ·rw [List.drop_eq_nil_of_le (by rw [len_size]; omega),show unq ([]:List UInt8)=[] from rfl]
  unfold unq; rw [if_neg h1]
theorem unq_step2 (s:ByteArray) (k:Nat) (h:k + 1 < s.size) (h1:s[k]=92):unq (s.data.toList.drop k)=s[k + 1] :: unq (s.data.toList.drop (k + 2)):=by
 rw [drop_cons s k (by omega),drop_cons s (k + 1) h,unq,if_neg (by rw [h1]; decide),if_pos h1]
theorem unq_stop (s:ByteArray) (k:Nat) (h:s.size<=k):unq (s.data.toList.drop k)=[]:=by
 rw [List.drop_eq_nil_of_le (by rw [len_size]; omega)]; rfl
theorem unq_quote (s:ByteArray) (k:Nat) (h:k < s.size) (h1:s[k]=34):unq (s.data.toList.drop k)=[]:=by
 rw [drop_cons s k h]
 cases hd:s.data.toList.drop (k + 1) with
 | nil => rw [unq,if_pos h1]
 | cons d r => rw [unq,if_pos h1]
theorem decFrom_append:∀ (l m:List UInt8) (acc n:Nat),Lib.decFrom acc l=some n->Lib.decFrom acc (l ++ m)=Lib.decFrom n m
 | [],m,acc,n,h => by
  simp only [Lib.decFrom,Option.some.injEq] at h
  subst h; rfl
 | c :: l,m,acc,n,h => by
  rw [List.cons_append]
  change (match Lib.digitVal c with | some d => Lib.decFrom (acc * 10 + d) l | none => none)=some n at h
  show (match Lib.digitVal c with | some d => Lib.decFrom (acc * 10 + d) (l ++ m) | none => none)=Lib.decFrom n m
  cases hd:Lib.digitVal c with
  | none => rw [hd] at h; simp at h
  | some d =>
   rw [hd] at h
   exact decFrom_append l m _ n h
theorem digit_of (d:Nat) (h:d < 10):Lib.digitVal (UInt8.ofNat (48 + d))=some d:=by
 have:∀ d:Fin 10,Lib.digitVal (UInt8.ofNat (48 + d.val))=some d.val:=by decide
 exact this ⟨d,h⟩
theorem decFrom_dec (u:Nat):Lib.decFrom 0 (Lib.decDigits u)=some u:=by
 induction u using Nat.strongRecOn with
 | _ u ih =>
  by_cases h:u < 10
  ·rw [Lib.decDigits_one h]
   unfold Lib.decFrom
   rw [digit_of u h]
   simp [Lib.decFrom]
  ·rw [Lib.decDigits,dif_neg h,decFrom_append _ _ _ _ (ih (u / 10) (by omega))]
   unfold Lib.decFrom
   rw [digit_of _ (by omega)]
   simp [Lib.decFrom]
   omega
theorem dec_ne (u:Nat):Lib.decDigits u ≠ []:=fun h => by
 have:=Lib.decDigits_length u
 rw [h] at this
 have:=Lib.nDigits_pos u
 simp at *
 omega
theorem decNat_dec (u:Nat):Lib.decNat (Lib.decDigits u)=some u:=by
 have h:=decFrom_dec u
 unfold Lib.decNat
 cases hd:Lib.decDigits u with
 | nil => exact absurd hd (dec_ne u)
 | cons c r => rw [hd] at h; simpa using h
theorem dec_head (u:Nat):∃ c r,Lib.decDigits u=c :: r/\48<=c.toNat/\c.toNat<=57:=by
 cases hd:Lib.decDigits u with
 | nil => exact absurd hd (dec_ne u)
 | cons c r =>
  refine ⟨c,r,rfl,?_⟩
  have h:=decFrom_dec u
  obtain ⟨d,hdg⟩:=Lib.digit_of_decFrom _ _ _ h 0 c (by rw [hd]; rfl)
  have:=Lib.digitVal_eq hdg
  exact ⟨this.1,this.2.1⟩
theorem atoi_itoa (n:Int):Lib.atoi (Lib.itoa n)=some n:=by
 by_cases h:n < 0
 ·have e:Lib.itoa n=45 :: Lib.decDigits n.natAbs:=by unfold Lib.itoa; rw [if_pos h]
  rw [e]
  unfold Lib.atoi
  simp [decNat_dec]
  omega
 ·have e:Lib.itoa n=Lib.decDigits n.toNat:=by unfold Lib.itoa; rw [if_neg h]
  rw [e]
  obtain ⟨c,r,hc,h1,h2⟩:=dec_head n.toNat
  have hd:=decNat_dec n.toNat
  rw [hc] at hd ⊢
  show (if (c == 45)=true then Option.map (fun (m:Nat) => -(m:Int)) (Lib.decNat r) else if (c == 43)=true then Option.map (fun (m:Nat) => (m:Int)) (Lib.decNat r) else Option.map (fun (m:Nat) => (m:Int)) (Lib.decNat (c :: r)))=some n
  have e1:(c == 45)=false:=by rw [beq_eq_false_iff_ne]; rintro rfl; simp at h1
  have e2:(c == 43)=false:=by rw [beq_eq_false_iff_ne]; rintro rfl; simp at h1
  rw [e1,e2]
  simp only [Bool.false_eq_true,if_false]
  rw [hd]
  simp
  omega
theorem itoa_short (n:Int) (h1:-1099511627776<=n) (h2:n<=1099511627776):(Lib.itoa n).length<=18:=by
 have hd:∀ u:Nat,u<=1099511627776->(Lib.decDigits u).length<=13:=fun u hu => by
  rw [Lib.decDigits_length]
  by_cases g:Lib.nDigits u<=13
  ·exact g
  ·exfalso
   have hp:∀ k u:Nat,Lib.nDigits u=k + 1->10 ^ k<=u ∨ k=0:=by
    intro k
    induction k with
    | zero => intro u _; exact .inr rfl
    | succ k ih =>
     intro u hn
     left
     by_cases hu:u < 10
     ·rw [Lib.nDigits_small hu] at hn; omega
     ·rw [Lib.nDigits_big hu] at hn
      rcases ih (u / 10) (by omega) with g | g
      ·rw [Nat.pow_succ]; omega
      ·subst g; omega
   obtain ⟨k,hk⟩:∃ k,Lib.nDigits u=k + 1:=⟨Lib.nDigits u - 1,by have:=Lib.nDigits_pos u; omega⟩
   rcases hp k u hk with g1 | g1
   ·have:10 ^ 13<=10 ^ k:=Nat.pow_le_pow_right (by decide) (by omega)
    omega
   ·omega
 unfold Lib.itoa
 by_cases h:n < 0
 ·rw [if_pos h,List.length_cons]; have:=hd n.natAbs (by omega); omega
 ·rw [if_neg h]; have:=hd n.toNat (by omega); omega
theorem atoiAll_itoa (n:Int) (h1:-1099511627776<=n) (h2:n<=1099511627776):Lib.atoiAll (Lib.itoa n)=.ok n:=by
 rw [Lib.atoiAll_short _ (itoa_short n h1 h2),atoi_itoa]; rfl
def numF (k:Int) (l:List UInt8):Option (Int × Int × List UInt8):=match Lib.atoiAll l with | .ok n => some (k,n,[]) | _ => none
def trueL:List UInt8:=[116,114,117,101]
def falseL:List UInt8:=[102,97,108,115,101]
def candF (l:List UInt8):Option (Int × Int × List UInt8) :=
 if l=trueL then some (2,1,[]) else if l=falseL then some (2,0,[]) else if l=[63] then some (4,0,[])
 else if l.head?=some 34 then some (3,0,unq l.tail) else if l.head?=some 33 then numF 5 l.tail else numF 1 l
theorem itoa_head (n:Int):∃ c r,Lib.itoa n=c :: r/\(c=45 ∨ (48<=c.toNat/\c.toNat<=57)):=by
 unfold Lib.itoa
 by_cases h:n < 0
 ·rw [if_pos h]; exact ⟨_,_,rfl,.inl rfl⟩
 ·rw [if_neg h]; obtain ⟨c,r,hc,h1⟩:=dec_head n.toNat; exact ⟨c,r,hc,.inr h1⟩
theorem head_ne {c d:UInt8} (h:c=45 ∨ (48<=c.toNat/\c.toNat<=57)) (hd:d=116 ∨ d=102 ∨ d=63 ∨ d=34 ∨ d=33):c ≠ d:=by
 rintro rfl
 rcases h with h | ⟨h1,h2⟩
 ·subst h; revert hd; decide
 ·rcases hd with rfl | rfl | rfl | rfl | rfl <;> simp at h1 h2
theorem cand_num {c:UInt8} {r:List UInt8} (h:c=45 ∨ (48<=c.toNat/\c.toNat<=57)):candF (c :: r)=numF 1 (c :: r):=by
 have h1:=head_ne (d:=116) h (by decide)
 have h2:=head_ne (d:=102) h (by decide)
 have h3:=head_ne (d:=63) h (by decide)
 have h4:=head_ne (d:=34) h (by decide)
 have h5:=head_ne (d:=33) h (by decide)
 unfold candF trueL falseL
 rw [if_neg (by intro e; injection e with e _; exact h1 e),if_neg (by intro e; injection e with e _; exact h2 e),if_neg (by intro e; injection e with e _; exact h3 e),
  if_neg (by simpa using h4),if_neg (by simpa using h5)]
theorem cand_show {k n:Int} {l:List UInt8} (h1:numE k n=0) (h2:strE k l=0):candF (showL k n l)=some (k,n,l):=by
 have hl:k ≠ 3->l=[]:=fun hk => by
  rw [strE_other hk] at h2
  by_cases e:l=[]
  ·exact e
  ·rw [if_neg e] at h2; omega
 unfold numE at h1
 by_cases k1:k=1
 ·subst k1
  rw [hl (by decide)]
  rw [if_pos rfl] at h1
  have ho:okN n=true:=by by_cases g:okN n=true; exact g; rw [if_neg g] at h1; omega
  obtain ⟨b1,b2⟩:=okN_iff.1 ho
  have e:showL 1 n []=Lib.itoa n:=by simp [showL]
  rw [e]
  obtain ⟨c,r,hc,hh⟩:=itoa_head n
  rw [hc,cand_num hh,← hc]
  unfold numF
  rw [atoiAll_itoa n b1 b2]
 ·rw [if_neg k1] at h1
  by_cases k2:k=2
  ·subst k2
   rw [hl (by decide)]
   rw [if_pos rfl] at h1
   have hn:n=0 ∨ n=1:=by
    by_cases g:0<=n/\n<=1
    ·omega
    ·rw [if_neg g] at h1; omega
   rcases hn with rfl | rfl
   ·decide
   ·decide
  ·rw [if_neg k2] at h1
   by_cases k3:k=3 ∨ k=4
   ·rw [if_pos k3] at h1
    have hn:n=0:=by by_cases g:n=0; exact g; rw [if_neg g] at h1; omega
    subst hn
    rcases k3 with rfl | rfl
    ·have e:showL 3 0 l=34 :: (escL l ++ [34]):=by simp [showL,quoteL]
     rw [e]
     unfold candF
     rw [if_neg (by intro e; injection e with e _; revert e; decide),if_neg (by intro e; injection e with e _; revert e; decide),if_neg (by intro e; injection e with e _; revert e; decide),if_pos (show (34 :: (escL l ++ [34])).head?=some 34 from rfl)]
     simp [unq_esc]
    ·rw [hl (by decide)]; decide
   ·rw [if_neg k3] at h1
    by_cases k5:k=5
    ·subst k5
     rw [hl (by decide)]
     rw [if_pos rfl] at h1
     have hn:1<=n/\n<=15:=by
      by_cases g:1<=n/\n<=15
      ·exact g
      ·rw [if_neg g] at h1; omega
     have e:showL 5 n []=33 :: Lib.itoa n:=by simp [showL]
     rw [e]
     unfold candF
     rw [if_neg (by intro e; injection e with e _; revert e; decide),if_neg (by intro e; injection e with e _; revert e; decide),if_neg (by intro e; injection e with e _; revert e; decide),if_neg (by simp),if_pos (show (33 :: Lib.itoa n).head?=some 33 from rfl)]
     unfold numF
     rw [List.tail_cons,atoiAll_itoa n (by omega) (by omega)]
    ·rw [if_neg k5] at h1; omega
end ParseM
namespace PrM
open ValM LexM ExM ShowM
def rwF (op:Int):NotTab.Rw:=NotTab.rows.getD op.toNat ([],0,0)
def precF (op:Int):Int:=(rwF op).2.1
def signF (op:Int):List UInt8:=(rwF op).1
def br (p:Int) (t:Int × List UInt8):List UInt8:=if precF t.1 < p then 40 :: (t.2 ++ [41]) else t.2
def commas:List (List UInt8)->List UInt8
 | [] => []
 | [a] => a
 | a :: r => a ++ ([44,32] ++ commas r)
def arg (ts:List (Int × List UInt8)) (i:Nat):Int × List UInt8:=ts.getD i (0,[])
def leftF (op:Int):Int:=if precF op=2 then precF op + 1 else precF op
def txtF (d:Nd) (ts:List (Int × List UInt8)):List UInt8 :=
 if d.op=1 then showL d.k d.n d.s.data.toList
 else if d.op=2 then d.nm.data.toList
 else if precF d.op=6 then signF d.op ++ (40 :: (commas (ts.map (·.2)) ++ [41]))
 else if d.op=4 then signF d.op ++ (32 :: br 5 (arg ts 0))
 else if precF d.op=5 then signF d.op ++ br 5 (arg ts 0)
 else br (leftF d.op) (arg ts 0) ++ (32 :: (signF d.op ++ (32 :: br (precF d.op + 1) (arg ts 1))))
mutual
def Ex.txt:Ex->List UInt8 | .mk d l => txtF d (txtL l)
def txtL:List Ex->List (Int × List UInt8) | [] => [] | x :: l => (x.d.op,Ex.txt x) :: txtL l
end
theorem txt_mk (d:Nd) (l:List Ex):Ex.txt (.mk d l)=txtF d (txtL l):=by simp [Ex.txt]
theorem txtL_cons (x:Ex) (l:List Ex):txtL (x :: l)=(x.d.op,Ex.txt x) :: txtL l:=by simp [txtL]
theorem txtL_map (l:List Ex):txtL l=l.map fun x => (x.d.op,Ex.txt x):=by
 induction l with
 | nil => simp [txtL]
 | cons x l ih => rw [txtL_cons,ih]; rfl
theorem txtL_at (l:List Ex) (i:Nat) (h:i < l.length):arg (txtL l) i=(l[i].d.op,Ex.txt l[i]):=by
 unfold arg
 rw [txtL_map,List.getD_eq_getElem?_getD,List.getElem?_map,List.getElem?_eq_getElem h]; rfl
theorem show_len {k n:Int} {l:List UInt8} (h:knownB k n l=true):(showL k n l).length<=100:=by
 unfold knownB isT at h
 simp only [Bool.and_eq_true,Bool.or_eq_true,decide_eq_true_eq] at h
 obtain ⟨ht,hv⟩:=h
 unfold valE at hv
 by_cases hn:numE k n=0
 ·rw [if_pos hn] at hv
  unfold showL
  rcases ht with (rfl | rfl) | rfl
  ·rw [if_neg (by decide),if_neg (by decide),if_neg (by decide),if_neg (by decide)]
   unfold numE at hn
   rw [if_pos rfl] at hn
   cases hb:NumM.okN n
   ·rw [hb] at hn; simp at hn
   ·have:=NumM.okN_iff.1 hb
    have:=ParseM.itoa_short n this.1 this.2
    omega
  ·rw [if_pos rfl]
   cases decide (n=1) <;> decide
  ·rw [if_neg (by decide),if_pos rfl]
   unfold strE at hv
   rw [if_pos rfl] at hv
   by_cases h40:40 < l.length
   ·rw [if_pos h40] at hv; exact absurd hv (by decide)
   ·have:=escL_len l
    unfold quoteL
    simp
    omega
 ·rw [if_neg hn] at hv; exact absurd hv hn
theorem rwF_len (op:Int):(signF op).length<=3:=by
 unfold signF rwF
 rcases Nat.lt_or_ge op.toNat 19 with h | h
 ·obtain h | h | h | h | h | h | h | h | h | h | h | h | h | h | h | h | h | h | h:op.toNat=0 ∨ op.toNat=1 ∨ op.toNat=2 ∨ op.toNat=3 ∨ op.toNat=4 ∨ op.toNat=5 ∨ op.toNat=6 ∨ op.toNat=7 ∨ op.toNat=8 ∨ op.toNat=9 ∨ op.toNat=10 ∨ op.toNat=11 ∨ op.toNat=12 ∨ op.toNat=13 ∨ op.toNat=14 ∨ op.toNat=15 ∨ op.toNat=16 ∨ op.toNat=17 ∨ op.toNat=18:=by omega
  all_goals rw [h]; decide
 ·rw [List.getD_eq_getElem?_getD,List.getElem?_eq_none (by show NotTab.rows.length<=_; exact h)]; decide
def sumL (ts:List (Int × List UInt8)):Nat:=(ts.map fun t => t.2.length).sum
theorem commas_len:∀ ls:List (List UInt8),(commas ls).length<=(ls.map List.length).sum + 2 * ls.length
 | [] => by simp [commas]
 | [a] => by simp [commas]
 | a :: b :: r => by
  have:=commas_len (b :: r)
  simp only [commas,List.length_append,List.map_cons,List.sum_cons,List.length_cons,List.length_nil] at this ⊢
  omega
theorem br_len (p:Int) (t:Int × List UInt8):(br p t).length<=t.2.length + 2:=by
 unfold br
 split
 ·simp
 ·omega
theorem arg_len (ts:List (Int × List UInt8)):(arg ts 0).2.length + (arg ts 1).2.length<=sumL ts:=by
 unfold arg sumL
 match ts with
 | [] => simp
 | [a] => simp
 | a :: b :: r => simp; try omega
theorem sumL_le {l:List Ex} (h:∀ x ∈ l,(Ex.txt x).length<=100 * x.nodes):sumL (txtL l)<=100 * nodesL l:=by
 induction l with
 | nil => simp [txtL,sumL]
 | cons x l ih =>
  have h1:=h x (by simp)
  have h2:=ih fun y hy => h y (by simp [hy])
  rw [txtL_cons,nodesL_cons]
  unfold sumL at h2 ⊢
  simp
  omega
theorem txt_len : ∀ x : Ex, x.okN → (Ex.txt x).length ≤ 100 * x.nodes := by
  refine Ex.ind fun d l ih => ?_
  intro hok
  obtain ⟨h0, hl⟩ := (okN_mk d l).1 hok
  have hs := sumL_le fun x hx => ih x hx (hl x hx)
  have hlen : l.length ≤ 3 ∧ (d.op = 1 → knownB d.k d.n d.s.data.toList = true) ∧ (d.op = 2 → d.nm.data.toList.length ≤ 10) := by
    unfold nodeE at h0
    by_cases hr : d.op < 1 ∨ 18 < d.op
    · rw [if_pos hr] at h0; exact absurd h0 (by decide)
    · rw [if_neg hr] at h0
      by_cases hg : l.length = arity d.op ∧ vOk d = true ∧ nmOk d = true
      · refine ⟨?_, fun h1 => ?_, fun h2 => ?_⟩
        · have : ∀ o : Int, arity o ≤ 3 := fun o => by unfold arity; repeat' split
                                                       all_goals omega
          rw [hg.1]; exact this _
        · have := hg.2.1
          unfold vOk at this
          rw [if_pos h1] at this
          simp only [Bool.and_eq_true] at this
          exact this.1
        · have := hg.2.2
          unfold nmOk nmB at this
          rw [if_pos h2] at this
          simp only [Bool.and_eq_true, decide_eq_true_eq] at this
          exact this.1.1.2
      · rw [if_neg hg] at h0; exact absurd h0 (by decide)
  obtain ⟨h3, hc1, hc2⟩ := hlen
  have hsg := rwF_len d.op
  have hag := arg_len (txtL l)
  have b0 := fun p => br_len p (arg (txtL l) 0)
  have b1 := fun p => br_len p (arg (txtL l) 1)
  rw [txt_mk, nodes_mk]
  unfold txtF
  by_cases o1 : d.op = 1
  · rw [if_pos o1]; have := show_len (hc1 o1); omega
  rw [if_neg o1]
  by_cases o2 : d.op = 2
  · rw [if_pos o2]; have := hc2 o2; omega
  rw [if_neg o2]
  by_cases o6 : precF d.op = 6
  · rw [if_pos o6]
    have := commas_len ((txtL l).map (·.2))
    have e1 : (((txtL l).map (·.2)).map List.length).sum = sumL (txtL l) := by unfold sumL; rw [List.map_map]; rfl
    have e2 : ((txtL l).map (·.2)).length = l.length := by rw [txtL_map]; simp
    rw [e1, e2] at this
    simp only [List.length_append, List.length_cons, List.length_nil]
    omega
  rw [if_neg o6]
  by_cases o4 : d.op = 4
  · rw [if_pos o4]
    have := b0 5
    simp only [List.length_append, List.length_cons]
    omega
  rw [if_neg o4]
  by_cases o5 : precF d.op = 5
  · rw [if_pos o5]
    have := b0 5
    simp only [List.length_append]
    omega
  rw [if_neg o5]
  have := b0 (leftF d.op)
  have := b1 (precF d.op + 1)
  simp only [List.length_append, List.length_cons]
  omega
end PrM
end Go.Proofs.YtepikijjagoehaaGreatDoor
