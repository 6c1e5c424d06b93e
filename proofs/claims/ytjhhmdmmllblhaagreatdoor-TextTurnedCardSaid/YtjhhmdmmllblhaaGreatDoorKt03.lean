/- Kit RawValue Ex GenLeaf FrmBase Num Value Fld: what these laws name of them. -/
import Derived.Below
import Derived.Deep.Draws
import Derived.WalkKit
import Derived.ProofKit
import Derived.Test.YtjhhmdmmllblhaaGreatDoorChecked
import Derived.Lib.ConvBytes
import Derived.Lib.AtoiErrMem
import Derived.Laws.IdiomStrings
import Derived.WalkSpells
import Derived.WalkLawsBesides
import Derived.Outline
import Derived.Lib.Hide
import Derived.Deep.LoopGhost
import Derived.Test.YtjhhmdmmllblhaaGreatDoorProg
import Derived.IntWalk
import Derived.Laws.OwnMore
import Derived.OwnWalk
import Derived.ChangeAlike
import Derived.RangeFuncBox
import Derived.Deep.RegionHeld3
import Derived.Deep.AppendLies
import Derived.Deep.RegionLaw
import Derived.Deep.RegionWith
import Derived.RegionTactic
import Derived.BigRegion
import Derived.Laws.Pointers
import Derived.Deep.QuietTactic
import Derived.BigQuiet
import Derived.WalkSmall
import Derived.Test.YtjhhmdmmllblhaaGreatDoorKt01
namespace Go.Proofs.YtjhhmdmmllblhaaGreatDoor
set_option linter.unusedVariables false
namespace Kit
open Go.RowKit
theorem ret_bool {a b:Bool} (h:a=b):Ending.returned (.bool a)=.returned (.bool b):=by rw [h]
theorem b_drewN {B:Nat} {a w:World} (h:Below B a w) (n:Nat):Below B a (w.drewN n):=⟨h.os,h.tape,h.output,h.size,h.block⟩
theorem b_trans {w w1 w2:World} (h1:Below w.heap.size w w1) (h2:Below w1.heap.size w1 w2):Below w.heap.size w w2:=h1.trans (h2.mono h1.size)
theorem b_new (w:World) (o:Obj):Below w.heap.size w (w.alloc o):=(Below.refl _ _).alloc (Nat.le_refl _) _
theorem b_then {w w1:World} {o:Obj} (h:Below (w.alloc o).heap.size (w.alloc o) w1):Below w.heap.size w w1:=(b_new w o).trans (h.mono (by simp))
theorem b_more {w w1:World} (h:Below w.heap.size w w1) (o:Obj):Below w.heap.size w (w1.alloc o):=h.trans ((b_new w1 o).mono h.size)
theorem b_undrew {w w1:World} (h:Below w.drew.heap.size w.drew w1):Below w.heap.size w w1:=⟨h.os,h.tape,h.output,h.size,h.block⟩
theorem b_drew {B:Nat} {a w:World} (h:Below B a w):Below B a w.drew:=⟨h.os,h.tape,h.output,h.size,h.block⟩
theorem b_thenD {w w1:World} {o:Obj} (h:Below (w.alloc o).drew.heap.size (w.alloc o).drew w1):Below w.heap.size w w1:=b_then (b_undrew h)
theorem bcell {W w1:World} (hb:Below W.heap.size W w1):(∀ b o,b < W.heap.size->w1.cell? ⟨b,o,none⟩=W.cell? ⟨b,o,none⟩)/\(∀ b o,b < W.heap.size->w1.frozen? ⟨b,o,none⟩=W.frozen? ⟨b,o,none⟩) :=
 ⟨fun b o h => hb.cell (p:=⟨b,o,none⟩) h,fun b o h => hb.frozen (p:=⟨b,o,none⟩) h⟩
theorem box3 {W w1:World} (B:Nat) (k n:Int) (s:ByteArray) (hb:Below W.heap.size W w1) (h:B < W.heap.size) (h0:W.cell? ⟨B,0,none⟩=some (.int .i64 k)) (h1:W.cell? ⟨B,1,none⟩=some (.int .i64 n)) (h2:W.cell? ⟨B,2,none⟩=some (.string s)) :
  w1.cell? ⟨B,0,none⟩=some (.int .i64 k)/\w1.cell? ⟨B,1,none⟩=some (.int .i64 n)/\w1.cell? ⟨B,2,none⟩=some (.string s)/\B < w1.heap.size :=
 ⟨(hb.cell (p:=⟨B,0,none⟩) h).trans h0,(hb.cell (p:=⟨B,1,none⟩) h).trans h1,(hb.cell (p:=⟨B,2,none⟩) h).trans h2,Nat.lt_of_lt_of_le h hb.size⟩
theorem zlt {W w1:World} (h:Below W.heap.size W w1):∀ b,b < W.heap.size->b < w1.heap.size:=fun _ g => Nat.lt_of_lt_of_le g h.size
theorem sz_set (w:World) (a:Addr) (v:Value):(w.setCell a v).heap.size=w.heap.size:=by simp [World.setCell]
theorem b_set3 {w w1:World} (h:Below w.heap.size w w1) (b:Nat) (hb:w.heap.size<=b) (x y z:Value):Below w.heap.size w (((w1.setCell ⟨b,0,none⟩ x).setCell ⟨b,1,none⟩ y).setCell ⟨b,2,none⟩ z) :=
 ((h.setCell (p:=⟨b,0,none⟩) hb _).setCell (p:=⟨b,1,none⟩) hb _).setCell (p:=⟨b,2,none⟩) hb _
end Kit
namespace Within
open Go.RowKit
set_option linter.unusedVariables false
theorem ret_int {k:IntKind} {a b:Int} (h:a=b):Ending.returned (.int k a)=.returned (.int k b):=by rw [h]
def pick (n many:Int):Int:=(if n < 0 then -(n + 1) else n) % many
theorem pick_bd (n many:Int) (h:0 < many):0<=pick n many/\pick n many < many :=
 ⟨Int.emod_nonneg _ (by omega),Int.emod_lt_of_pos _ h⟩
theorem picked_any (n many:Int) (w:World) (hn:(Lit.int .i64 n).wf=true) (h:0 < many) (h2:many<=9223372036854775807) :
  Calls Tryz.prog 7 #[.int .i64 n,.int .i64 many] w fun e w' => e=.returned (.int .i64 (pick n many))/\w=w':=by
 obtain ⟨b1,b2⟩:-9223372036854775808<=n/\n<=9223372036854775807:=by
  have hh:=hn
  have hmin:IntKind.i64.min=-9223372036854775808:=rfl
  have hmax:IntKind.i64.max=9223372036854775807:=rfl
  simp only [Lit.wf,Bool.and_eq_true,decide_eq_true_eq] at hh
  omega
 clear hn
 by_cases hs:n < 0
 ·obtain ⟨p,hp⟩:∃ p,pick n many=p:=⟨_,rfl⟩
  rw [hp]
  unfold pick at hp
  rw [if_pos hs] at hp
  have HP:Hid (-(n + 1) % many=p):=hp
  clear hp
  go_enter Tryz.func7,Tryz.ntmps7
  go_wp2
  go_ret
  exact ⟨ret_int (by rw [← Int.neg_tmod,Int.tmod_eq_emod_of_nonneg (by omega)]; exact HP.out),rfl⟩
 ·obtain ⟨p,hp⟩:∃ p,pick n many=p:=⟨_,rfl⟩
  rw [hp]
  unfold pick at hp
  rw [if_neg hs] at hp
  have HP:Hid (n % many=p):=hp
  clear hp
  go_enter Tryz.func7,Tryz.ntmps7
  go_wp2
  go_ret
  exact ⟨ret_int (by first | rfl | exact HP.out),rfl⟩
end Within
namespace Clean
open Go.RowKit Go.Lib
open Kit
set_option linter.unusedVariables false
def cl (c:UInt8):UInt8:=UInt8.ofNat (32 + c.toNat % 95)
def cleanF (l:List UInt8) (m:Nat):List UInt8:=(l.take m).map cl
theorem conv (w:World) (t:ByteArray):∃ (W1:World) (cap:Nat),(convert 9 60 (.string t)).run Tryz.prog w=.ok (.slice (some ⟨w.heap.size,0,none⟩) t.size cap) W1 ∧
  (∀ j,j < t.size->W1.cell? ⟨w.heap.size,j,none⟩=some (.int .u8 (t.data.toList.getD j 0).toNat))/\(∀ j,j < t.size->W1.frozen? ⟨w.heap.size,j,none⟩=false)/\W1.heap.size=w.heap.size + 1/\Below w.heap.size w W1:=by
 refine ⟨_,_,Lib.run_convert_string_bytes (P:=Tryz.prog) w 9 60 5 t Tryz.underlying9 Tryz.underlying60 Tryz.underlying5,fun j hj => bytesWorld_cell w _ t j hj,fun j hj => ?_,bytesWorld_size w _ t,bytesWorld_below w _ t⟩
 have hle:t.size<=(bytesCells w 5 t).size:=by simp [bytesCells]
 simp only [World.frozen?,bytesWorld_at_new]
 simp
 omega
def turned (t:ByteArray) (k j:Nat):Value:=.int .u8 (if j < k then (cl (t.data.toList.getD j 0)).toNat else (t.data.toList.getD j 0).toNat:Nat)
theorem cl_val (c:UInt8):((cl c).toNat:Int)=32 + (c.toNat:Int) % 95:=by
 unfold cl
 have:(32 + c.toNat % 95) < 256:=by omega
 rw [UInt8.toNat_ofNat',Nat.mod_eq_of_lt (by simpa using this)]
 omega
structure Inv (B:Nat) (w:World) (t:ByteArray) (k:Nat) (wr:World):Prop where
 le:k<=t.size
 cell:∀ j,j < t.size->wr.cell? ⟨B,j,none⟩=some (turned t k j)
 free:∀ j,j < t.size->wr.frozen? ⟨B,j,none⟩=false
 below:Below B w wr
theorem Inv.step {B:Nat} {w:World} {t:ByteArray} {k:Nat} {wr:World} (h:Inv B w t k wr) (hk:k < t.size) :
  Inv B w t (k + 1) (wr.setCell ⟨B,k,none⟩ (.int .u8 (32 + ((t.data.toList.getD k 0).toNat:Int) % 95))) where
 le:=hk
 cell:=fun j hj => by
  by_cases e:j=k
  ·subst e
   rw [World.cell?_setCell_same _ _ _ (h.cell j hj)]
   unfold turned
   rw [if_pos (by omega),cl_val]
  ·rw [World.cell?_setCell_other _ _ _ _ (by intro g; apply e; simpa using g.symm),h.cell j hj]
   unfold turned
   by_cases g:j < k
   ·rw [if_pos g,if_pos (by omega)]
   ·rw [if_neg g,if_neg (by omega)]
 free:=fun j hj => by rw [World.frozen?_setCell]; exact h.free j hj
 below:=h.below.setCell (by simp) _
theorem core (s t:ByteArray) (m:Nat) (w:World) (hs:t.size<=1000) (hcase:(s.size<=m/\t=s) ∨ (m < s.size/\s.extract 0 m=t)) (hss:s.size<=9223372036854775807) (hm:m<=1000) :
  Calls Tryz.prog 121 #[.string s,.int .i64 m] w fun e w' => e=.returned (.string ⟨(t.data.toList.map cl).toArray⟩)/\Below w.heap.size w w':=by
 obtain ⟨W1,cap,hc,hcell,hfz,hsz,hbel⟩:=conv w t
 have h0:Inv w.heap.size w t 0 W1:=⟨Nat.zero_le _,fun j hj => by rw [hcell j hj]; unfold turned; rw [if_neg (by omega)],hfz,hbel⟩
 have H0:=Lib.hid h0
 clear hcell hfz hsz hbel h0
 rcases hcase with ⟨h1,rfl⟩ | ⟨h1,ht⟩
 all_goals
  go_enter Tryz.func121,Tryz.ntmps121
  go_wp2
  go_loopw [6,7,17] (fun _ _ i wr => ∃ k:Nat,i=.int .i64 k/\Inv w.heap.size w t k wr) (fun _ _ i _ => t.size - (intOf i).toNat)
  case atStart => exact ⟨0,rfl,H0.out⟩
  case round =>
   obtain ⟨k,rfl,hI⟩:=hrel
   by_cases hlt:k < t.size
   ·have hS:=Lib.hid (hI.step hlt)
    have hc1:=hI.cell k hlt
    have hf1:=hI.free k hlt
    have hv:turned t k k=.int .u8 ((t.data.toList.getD k 0).toNat:Nat):=by unfold turned; rw [if_neg (by omega)]
    rw [hv] at hc1
    obtain ⟨c,hcc⟩:∃ c:Nat,(t.data.toList.getD k 0).toNat=c:=⟨_,rfl⟩
    have hc256:c < 256:=by rw [← hcc]; exact (t.data.toList.getD k 0).toNat_lt
    rw [hcc] at hc1 hS
    clear hv hcc hI
    go_wp2
    go_roundw
    case rel => exact ⟨k + 1,by go_num,hS.out⟩
    case measure => simp [intOf]; omega
   ·have hk:k=t.size:=by have:=hI.le; omega
    have hback:(convert 60 9 (.slice (some ⟨w.heap.size,0,none⟩) t.size cap)).run Tryz.prog wr=.ok (.string ⟨(t.data.toList.map cl).toArray⟩) wr:=by
     have:=run_convert_bytes_back (P:=Tryz.prog) wr 60 9 5 ⟨w.heap.size,0,none⟩ cap (t.data.toList.map cl) Tryz.underlying60 Tryz.underlying5 Tryz.underlying9 (fun j hj => by
      have hj':j < t.size:=by simpa using hj
      have h2:=hI.cell j hj'
      unfold turned at h2
      rw [if_pos (by omega)] at h2
      have e:(⟨w.heap.size,0,none⟩:Addr).add j=⟨w.heap.size,j,none⟩:=by simp only [Addr.add]; simp; exact fun h => h.symm
      rw [e,h2]
      have h3:j < t.data.toList.length:=hj'
      simp [List.getD,List.getElem?_eq_getElem h3])
     have e2:(t.data.toList.map cl).length=t.size:=by simp
     rw [e2] at this
     exact this
    have hb:=hI.below
    clear hI H0
    subst hk
    go_wp2
    go_ret
    exact ⟨rfl,hb⟩
theorem clean_any (s:ByteArray) (m:Nat) (w:World) (hs:s.size<=maxLen) (hm:m<=1000) :
  Calls Tryz.prog 121 #[.string s,.int .i64 m] w fun e w' => e=.returned (.string ⟨(cleanF s.data.toList m).toArray⟩)/\Below w.heap.size w w':=by
 unfold maxLen at hs
 by_cases h:s.size<=m
 ·have:=core s s m w (by omega) (.inl ⟨h,rfl⟩) hs hm
  unfold cleanF
  rw [List.take_of_length_le h]
  exact this
 ·have e:(s.extract 0 m).data.toList=s.data.toList.take m:=by simp
  have:=core s (s.extract 0 m) m w (by simp; omega) (.inr ⟨by omega,rfl⟩) hs hm
  unfold cleanF
  rw [← e]
  exact this
end Clean
namespace RawV
open Go.RowKit
open Kit Clean Within NumM ValM
set_option linter.unusedVariables false
def vK (k:Int):Int:=if k=1 then 1 else if k=2 then 2 else 3
def vN (k rk ra:Int):Int:=if k=1 then (if pick rk 7=0 then pick ra 2199023255553 - 1099511627776 else pick ra 40 - 12) else if k=2 then pick ra 2 else 0
def vS (k:Int) (t:ByteArray):ByteArray:=if k=1 then ⟨#[]⟩ else if k=2 then ⟨#[]⟩ else ⟨(cleanF t.data.toList 8).toArray⟩
theorem clean_of (l:List UInt8) (m:Nat):cleanL (cleanF l m)=true:=by
 unfold cleanL cleanF
 rw [List.all_eq_true]
 intro c hc
 obtain ⟨d,_,rfl⟩:=List.mem_map.1 hc
 have:(cl d).toNat=32 + d.toNat % 95:=by have:=cl_val d; omega
 simp only [Bool.and_eq_true,decide_eq_true_eq]
 omega
theorem vK_type (k:Int):isT (vK k)=true:=by
 unfold vK isT
 by_cases h1:k=1
 ·rw [if_pos h1]; rfl
 ·rw [if_neg h1]
  by_cases h2:k=2
  ·rw [if_pos h2]; rfl
  ·rw [if_neg h2]; rfl
theorem v_known (k rk ra:Int) (t:ByteArray):knownB (vK k) (vN k rk ra) (vS k t).data.toList=true:=by
 have hz:valE (vK k) (vN k rk ra) (vS k t).data.toList=0:=by
  unfold vK vN vS
  by_cases h1:k=1
  ·simp only [if_pos h1]
   have a:=pick_bd ra 2199023255553 (by omega)
   have b:=pick_bd ra 40 (by omega)
   have:okN (if pick rk 7=0 then pick ra 2199023255553 - 1099511627776 else pick ra 40 - 12)=true:=by
    apply okN_iff.2
    by_cases g:pick rk 7=0
    ·rw [if_pos g]; omega
    ·rw [if_neg g]; omega
   unfold valE numE
   rw [if_pos rfl,if_pos this,if_pos rfl]; rfl
  ·simp only [if_neg h1]
   by_cases h2:k=2
   ·simp only [if_pos h2]
    have a:=pick_bd ra 2 (by omega)
    have e:numE 2 (pick ra 2)=0:=by unfold numE; rw [if_neg (by omega),if_pos rfl,if_pos (by omega)]
    unfold valE
    rw [if_pos e]; rfl
   ·simp only [if_neg h2]
    have e:numE 3 0=0:=rfl
    unfold valE
    rw [if_pos e]
    show strE 3 (cleanF t.data.toList 8)=0
    apply strE_clean
    ·unfold cleanF; rw [List.length_map,List.length_take]; omega
    ·exact clean_of _ _
 unfold knownB
 rw [vK_type,hz]; rfl
theorem value_any (k rk ra rb:Int) (t:ByteArray) (w:World) (h1:(Lit.int .i64 rk).wf=true) (h2:(Lit.int .i64 ra).wf=true) (h3:t.size<=maxLen) :
  Calls Tryz.prog 92 #[.int .i64 k,.agg #[.int .i64 rk,.int .i64 ra,.int .i64 rb,.string t]] w fun e w' => e=.returned (.agg #[.int .i64 (vK k),.int .i64 (vN k rk ra),.string (vS k t)])/\Below w.heap.size w w':=by
 by_cases e1:k=1
 ·subst e1
  have hv:vK 1=1/\vS 1 t=⟨#[]⟩:=⟨rfl,rfl⟩
  rw [hv.1,hv.2]
  clear hv
  obtain ⟨p,hp⟩:∃ p,pick rk 7=p:=⟨_,rfl⟩
  have c1:=fun W => picked_any rk 7 W h1 (by omega) (by omega)
  rw [hp] at c1
  have C1:=Lib.hid c1
  by_cases hp0:p=0
  ·have hn:vN 1 rk ra=pick ra 2199023255553 - 1099511627776:=by unfold vN; rw [if_pos rfl,hp,if_pos hp0]
   rw [hn]
   obtain ⟨q,hq⟩:∃ q,pick ra 2199023255553=q:=⟨_,rfl⟩
   have hb:=pick_bd ra 2199023255553 (by omega)
   have c2:=fun W => picked_any ra 2199023255553 W h2 (by omega) (by omega)
   rw [hq] at c2 hb ⊢
   obtain ⟨hb1,hb2⟩:=hb
   have C2:=Lib.hid c2
   subst hp0
   clear c1 c2 hp hq hn h1 h2
   go_enter Tryz.func92,Tryz.ntmps92
   go_wp2_with fail
   refine (C1.out _).mono ?_; rintro e w1 ⟨rfl,rfl⟩
   go_wp2_with fail
   refine (C2.out _).mono ?_; rintro e w1 ⟨rfl,rfl⟩
   go_wp2_with fail
   refine bodyPost_ret (v:=.agg #[.int .i64 1,.int .i64 (q - 1099511627776),.string ⟨#[]⟩]) (by simp [results,Tryz.results92,go_sem]) rfl ⟨rfl,b_more (b_new _ _) _⟩
  ·have hn:vN 1 rk ra=pick ra 40 - 12:=by unfold vN; rw [if_pos rfl,hp,if_neg hp0]
   rw [hn]
   obtain ⟨q,hq⟩:∃ q,pick ra 40=q:=⟨_,rfl⟩
   have hb:=pick_bd ra 40 (by omega)
   have c2:=fun W => picked_any ra 40 W h2 (by omega) (by omega)
   rw [hq] at c2 hb ⊢
   obtain ⟨hb1,hb2⟩:=hb
   have C2:=Lib.hid c2
   have hp1:(p == 0)=false:=beq_eq_false_iff_ne.2 hp0
   clear c1 c2 hp hq hn h1 h2 hp0
   go_enter Tryz.func92,Tryz.ntmps92
   go_wp2_with fail
   refine (C1.out _).mono ?_; rintro e w1 ⟨rfl,rfl⟩
   go_wp2_with fail
   refine (C2.out _).mono ?_; rintro e w1 ⟨rfl,rfl⟩
   go_wp2_with fail
   refine bodyPost_ret (v:=.agg #[.int .i64 1,.int .i64 (q - 12),.string ⟨#[]⟩]) (by simp [results,Tryz.results92,go_sem]) rfl ⟨rfl,b_more (b_new _ _) _⟩
 ·by_cases e2:k=2
  ·subst e2
   have hv:vK 2=2/\vS 2 t=⟨#[]⟩/\vN 2 rk ra=pick ra 2:=⟨rfl,rfl,rfl⟩
   rw [hv.1,hv.2.1,hv.2.2]
   clear hv
   obtain ⟨q,hq⟩:∃ q,pick ra 2=q:=⟨_,rfl⟩
   have c2:=fun W => picked_any ra 2 W h2 (by omega) (by omega)
   rw [hq] at c2 ⊢
   have C2:=Lib.hid c2
   clear c2 hq h1 h2 e1
   go_enter Tryz.func92,Tryz.ntmps92
   go_wp2_with fail
   refine (C2.out _).mono ?_; rintro e w1 ⟨rfl,rfl⟩
   go_wp2_with fail
   refine bodyPost_ret (v:=.agg #[.int .i64 2,.int .i64 q,.string ⟨#[]⟩]) (by simp [results,Tryz.results92,go_sem]) rfl ⟨rfl,b_more (b_new _ _) _⟩
  ·have hv:vK k=3/\vS k t=⟨(cleanF t.data.toList 8).toArray⟩/\vN k rk ra=0:=by
    unfold vK vS vN; simp [e1,e2]
   rw [hv.1,hv.2.1,hv.2.2]
   have c2:∀ W:World,Calls Tryz.prog 121 #[.string t,.int .i64 8] W fun e w' => e=.returned (.string ⟨(cleanF t.data.toList 8).toArray⟩)/\Below W.heap.size W w':=fun W => clean_any t 8 W h3 (by omega)
   obtain ⟨r,hr⟩:∃ r,ByteArray.mk (cleanF t.data.toList 8).toArray=r:=⟨_,rfl⟩
   rw [hr] at c2 ⊢
   have C2:=Lib.hid c2
   have k1:(k == 1)=false:=beq_eq_false_iff_ne.2 e1
   have k2:(k == 2)=false:=beq_eq_false_iff_ne.2 e2
   clear c2 hr h1 h2 h3 e1 e2 hv
   go_enter Tryz.func92,Tryz.ntmps92
   go_wp2_with fail
   refine (C2.out _).mono ?_; rintro e w1 ⟨rfl,hb1⟩
   obtain ⟨d0,d1⟩:=bcell hb1
   have hz:w.heap.size + 1 < w1.heap.size:=Nat.lt_of_lt_of_le (by simp) hb1.size
   go_wp2_with fail
   refine bodyPost_ret (v:=.agg #[.int .i64 3,.int .i64 0,.string r]) (by simp [results,Tryz.results92,go_sem,d0]) rfl ⟨rfl,(((b_then (b_then hb1)).setCell (by simp) _).setCell (by simp) _).setCell (by simp) _⟩
end RawV
namespace ExL
open Go.RowKit
open ExM Kit
set_option linter.unusedVariables false
def At (w:World) (a:Addr) (d:Nd) (A:Option Addr) (n c:Nat):Prop :=
 w.cell? a=some (.int .i64 d.op)/\w.cell? ⟨a.block,a.off + 1,none⟩=some (.int .i64 d.k)/\w.cell? ⟨a.block,a.off + 2,none⟩=some (.int .i64 d.n)/\w.cell? ⟨a.block,a.off + 3,none⟩=some (.string d.s)/\w.cell? ⟨a.block,a.off + 4,none⟩=some (.string d.nm)/\w.cell? ⟨a.block,a.off + 5,none⟩=some (.slice A n c)
mutual
def Is (w:World):Ex->Nd->Option Addr->Nat->Prop
 | .mk d l,d',A,n => d'=d/\n=l.length/\(n<=maxLen/\d.s.size<=maxLen/\d.nm.size<=maxLen)/\IsL w A 0 l
def IsL (w:World) (A:Option Addr):Nat->List Ex->Prop
 | _,[] => True
 | i,x :: l => (∃ a d B n c,A=some a/\At w (a.add (i * 6)) d B n c/\Is w x d B n)/\IsL w A (i + 1) l
end
theorem isL_at {w:World} {A:Option Addr}:∀ {l:List Ex} {i:Nat},IsL w A i l->∀ (j:Nat) (h:j < l.length),∃ a d B n c,A=some a/\At w (a.add ((i + j) * 6)) d B n c/\Is w l[j] d B n
 | [],_,_,j,h => absurd h (by simp)
 | x :: l,i,hl,j,h => by
  rw [IsL] at hl
  match j,h with
  | 0,_ => exact hl.1
  | j + 1,h =>
   have:=isL_at hl.2 j (by simpa using h)
   rw [show i + 1 + j=i + (j + 1) by omega] at this
   exact this
theorem block_of_add (a:Addr) (n:Nat):(a.add n).block=a.block:=by unfold Addr.add; split <;> rfl
theorem cell_lt' {w:World} {a:Addr} {v:Value} (h:w.cell? a=some v):a.block < w.heap.size:=by
 rcases Nat.lt_or_ge a.block w.heap.size with hl | hg
 ·exact hl
 ·unfold World.cell? at h; rw [Array.getElem?_eq_none hg] at h; cases h
theorem At.keep {w w':World} {a:Addr} {d:Nd} {A:Option Addr} {n c:Nat} (h:At w a d A n c) (hk:∀ p:Addr,p.block=a.block->w'.cell? p=w.cell? p):At w' a d A n c:=by
 obtain ⟨h0,h1,h2,h3,h4,h5⟩:=h
 exact ⟨(hk a rfl).trans h0,(hk ⟨a.block,a.off + 1,none⟩ rfl).trans h1,(hk ⟨a.block,a.off + 2,none⟩ rfl).trans h2,(hk ⟨a.block,a.off + 3,none⟩ rfl).trans h3,(hk ⟨a.block,a.off + 4,none⟩ rfl).trans h4,(hk ⟨a.block,a.off + 5,none⟩ rfl).trans h5⟩
theorem At.lt {w:World} {a:Addr} {d:Nd} {A:Option Addr} {n c:Nat} (h:At w a d A n c):a.block < w.heap.size:=cell_lt' h.1
theorem At.below {w w':World} {a:Addr} {d:Nd} {A:Option Addr} {n c:Nat} (h:At w a d A n c) (hb:Below w.heap.size w w'):At w' a d A n c:=h.keep fun p hp => hb.cell (by rw [hp]; exact h.lt)
theorem isL_of {w:World} {A:Option Addr}:∀ {l:List Ex} {i:Nat},(∀ (j:Nat) (h:j < l.length),∃ a d B n c,A=some a/\At w (a.add ((i + j) * 6)) d B n c/\Is w l[j] d B n)->IsL w A i l
 | [],_,_ => by rw [IsL]; trivial
 | x :: l,i,h => by
  rw [IsL]
  refine ⟨h 0 (by simp),isL_of fun j hj => ?_⟩
  have:=h (j + 1) (by simpa using hj)
  rw [show i + (j + 1)=i + 1 + j by omega] at this
  exact this
theorem is_mk {w:World} {d d':Nd} {l:List Ex} {A:Option Addr} {n:Nat}:Is w (.mk d l) d' A n ↔ d'=d/\n=l.length/\(n<=maxLen/\d.s.size<=maxLen/\d.nm.size<=maxLen)/\∀ (j:Nat) (h:j < l.length),∃ a d B n c,A=some a/\At w (a.add (j * 6)) d B n c/\Is w l[j] d B n:=by
 rw [Is]
 refine ⟨fun ⟨h1,h2,h3,h4⟩ => ⟨h1,h2,h3,fun j hj => by have:=isL_at h4 j hj; rwa [Nat.zero_add] at this⟩,fun ⟨h1,h2,h3,h4⟩ => ⟨h1,h2,h3,isL_of fun j hj => by rw [Nat.zero_add]; exact h4 j hj⟩⟩
theorem Is.keep {w w':World} (hk:∀ p:Addr,p.block < w.heap.size->w'.cell? p=w.cell? p):∀ (x:Ex) (d:Nd) (A:Option Addr) (n:Nat),Is w x d A n->Is w' x d A n:=by
 refine Ex.ind fun d l ih => ?_
 intro d' A n h
 rw [is_mk] at h ⊢
 obtain ⟨h1,h2,h3,h4⟩:=h
 refine ⟨h1,h2,h3,fun j hj => ?_⟩
 obtain ⟨a,d2,B,m,c,e,ha,hi⟩:=h4 j hj
 exact ⟨a,d2,B,m,c,e,ha.keep fun p hp => hk p (by rw [hp]; exact ha.lt),ih _ (List.getElem_mem _) _ _ _ hi⟩
theorem Is.below {w w':World} {x:Ex} {d:Nd} {A:Option Addr} {n:Nat} (h:Is w x d A n) (hb:Below w.heap.size w w'):Is w' x d A n:=Is.keep (fun _ hp => hb.cell hp) x d A n h
theorem Is.alloc {w:World} {x:Ex} {d:Nd} {A:Option Addr} {n:Nat} (h:Is w x d A n) (o:Obj):Is (w.alloc o) x d A n:=h.below (b_new w o)
theorem int_max (q t:Nat):Value.int .i64 (if q < t then (t:Int) else q)=.int .i64 ((max q t:Nat):Int):=by
 by_cases h:q < t
 ·rw [if_pos h,Nat.max_eq_right (by omega)]
 ·rw [if_neg h,Nat.max_eq_left (by omega)]
set_option maxHeartbeats 1000000 in
theorem size_any:∀ (x:Ex) (d:Nd) (A:Option Addr) (n c:Nat) (w:World),x.nodes<=1000000000000->Is w x d A n →
  Calls Tryz.prog 86 #[.agg #[.int .i64 d.op,.int .i64 d.k,.int .i64 d.n,.string d.s,.string d.nm,.slice A n c]] w fun e w' => e=.returned (.tuple #[.int .i64 (x.nodes:Int),.int .i64 (x.depth:Int)])/\Below w.heap.size w w':=by
 refine Ex.ind fun d l ih => ?_
 intro d' A n c w hx his
 rw [is_mk] at his
 obtain ⟨rfl,rfl,⟨hm,_⟩,his⟩:=his
 have hlen:=len_nodesL l
 have hdn:=depth_le_nodes (Ex.mk d' l)
 rw [depth_mk] at hdn
 rw [nodes_mk] at hx hdn
 obtain ⟨N,hN⟩:∃ N,nodesL l=N:=⟨_,rfl⟩
 obtain ⟨D,hD⟩:∃ D,depthL l=D:=⟨_,rfl⟩
 have e1:((Ex.mk d' l).nodes:Int)=((1 + N:Nat):Int):=by rw [nodes_mk,hN]
 have e2:((Ex.mk d' l).depth:Int)=((D + 1:Nat):Int):=by rw [depth_mk,hD]
 rw [e1,e2]
 rw [hN] at hx hdn hlen
 rw [hD] at hdn
 clear e1 e2
 have HN:=Lib.hid hN
 have HD:=Lib.hid hD
 have HS:=Lib.hid his
 have HI:=Lib.hid ih
 clear hN hD his ih
 unfold maxLen at hm
 go_enter Tryz.func86,Tryz.ntmps86
 go_wp2_with fail
 go_loopw [4,5,7,8,9,13] (fun cnt dp _ _ _ i wr => ∃ (k p q:Nat),i=.int .i64 k/\k<=l.length/\Below w.heap.size w wr/\cnt=.int .i64 (p:Int)/\dp=.int .i64 (q:Int)/\p=1 + nodesL (l.take k)/\q=depthL (l.take k)) (fun _ _ _ _ _ i _ => l.length - (intOf i).toNat)
 case atStart => exact ⟨0,1,0,rfl,Nat.zero_le _,b_new _ _,rfl,rfl,by simp [nodesL_nil],by simp [depthL_nil]⟩
 case round =>
  obtain ⟨k,p,q,rfl,hk,hb,rfl,rfl,hp,hq⟩:=hrel
  have hpb:p<=1 + N:=by rw [hp,← HN.out]; have:=nodesL_take l k; omega
  have hqb:q<=D:=by rw [hq,← HD.out]; exact depthL_take l k
  have HP:=Lib.hid hp
  have HQ:=Lib.hid hq
  clear hp hq
  by_cases hlt:k < l.length
  ·obtain ⟨a,d2,B,m,c2,rfl,hat,hi⟩:=HS.out k hlt
   obtain ⟨h0,h1,h2,h3,h4,h5⟩:=hat.below hb
   have hi2:=(hi.below hb).alloc (.cells #[.int .i64 d2.op,.int .i64 d2.k,.int .i64 d2.n,.string d2.s,.string d2.nm,.slice B m c2] 45)
   have hxn:l[k].nodes<=N:=by rw [← HN.out]; exact nodes_mem (List.getElem_mem _)
   have hxd:l[k].depth<=D:=by rw [← HD.out]; exact depth_mem (List.getElem_mem _)
   obtain ⟨s,hs⟩:∃ s,l[k].nodes=s:=⟨_,rfl⟩
   obtain ⟨t,ht⟩:∃ t,l[k].depth=t:=⟨_,rfl⟩
   have hp2:p + s=1 + nodesL (l.take (k + 1)):=by rw [nodesL_at l k hlt,HP.out,hs]; omega
   have hq2:max q t=depthL (l.take (k + 1)):=by rw [depthL_at l k hlt,HQ.out,ht]
   have hpb2:p + s<=1 + N:=by rw [hp2,← HN.out]; have:=nodesL_take l (k + 1); omega
   have hc:=HI.out _ (List.getElem_mem hlt) d2 B m c2 _ (by omega) hi2
   rw [hs,ht] at hc
   rw [hs] at hxn
   rw [ht] at hxd
   have HC:=Lib.hid hc
   have HP2:=Lib.hid hp2
   have HQ2:=Lib.hid hq2
   have HB:=Lib.hid hb
   clear hc hp2 hq2 hs ht hi hi2 hat hb
   go_wp2_with fail
   refine HC.out.mono ?_; rintro e w2 ⟨rfl,hb2⟩
   have hb3:Below w.heap.size w w2:=HB.out.trans ((b_then hb2).mono HB.out.size)
   have hcell:=hb2.cell (p:=⟨w.heap.size,5,none⟩) (by have:=HB.out.size; simp; omega)
   have HB3:=Lib.hid hb3
   clear hb2 hb3 hcell
   go_wp2_with fail
   go_roundw
   case rel => exact ⟨k + 1,p + s,max q t,by go_num,by omega,HB3.out,by go_num,int_max q t,HP2.out,HQ2.out⟩
   case measure => simp [intOf]; omega
  ·have hkl:k=l.length:=by omega
   have hp2:p=1 + N:=by rw [HP.out,hkl,List.take_length,HN.out]
   have hq2:q=D:=by rw [HQ.out,hkl,List.take_length,HD.out]
   have HP2:=Lib.hid hp2
   have HQ2:=Lib.hid hq2
   clear hkl hp2 hq2
   go_wp2_with fail
   go_ret2
   exact ⟨by rw [HP2.out,HQ2.out]; rfl,hb⟩
end ExL
namespace ExP
open Go.RowKit
open ExM Kit ExL
set_option linter.unusedVariables false
mutual
def IsP (P:Nat->Prop) (w:World):Ex->Nd->Option Addr->Nat->Prop
 | .mk d l,d',A,n => d'=d/\n=l.length/\(n<=maxLen/\d.s.size<=maxLen/\d.nm.size<=maxLen)/\IsPL P w A 0 l
def IsPL (P:Nat->Prop) (w:World) (A:Option Addr):Nat->List Ex->Prop
 | _,[] => True
 | i,x :: l => (∃ a d B n c,A=some a/\P a.block/\At w (a.add (i * 6)) d B n c/\IsP P w x d B n)/\IsPL P w A (i + 1) l
end
theorem isPL_at {P:Nat->Prop} {w:World} {A:Option Addr}:∀ {l:List Ex} {i:Nat},IsPL P w A i l->∀ (j:Nat) (h:j < l.length),∃ a d B n c,A=some a/\P a.block/\At w (a.add ((i + j) * 6)) d B n c/\IsP P w l[j] d B n
 | [],_,_,j,h => absurd h (by simp)
 | x :: l,i,hl,j,h => by
  rw [IsPL] at hl
  match j,h with
  | 0,_ => exact hl.1
  | j + 1,h =>
   have:=isPL_at hl.2 j (by simpa using h)
   rw [show i + 1 + j=i + (j + 1) by omega] at this
   exact this
theorem isPL_of {P:Nat->Prop} {w:World} {A:Option Addr}:∀ {l:List Ex} {i:Nat},(∀ (j:Nat) (h:j < l.length),∃ a d B n c,A=some a/\P a.block/\At w (a.add ((i + j) * 6)) d B n c/\IsP P w l[j] d B n)->IsPL P w A i l
 | [],_,_ => by rw [IsPL]; trivial
 | x :: l,i,h => by
  rw [IsPL]
  refine ⟨h 0 (by simp),isPL_of fun j hj => ?_⟩
  have:=h (j + 1) (by simpa using hj)
  rw [show i + (j + 1)=i + 1 + j by omega] at this
  exact this
theorem isP_mk {P:Nat->Prop} {w:World} {d d':Nd} {l:List Ex} {A:Option Addr} {n:Nat}:IsP P w (.mk d l) d' A n ↔ d'=d/\n=l.length/\(n<=maxLen/\d.s.size<=maxLen/\d.nm.size<=maxLen)/\∀ (j:Nat) (h:j < l.length),∃ a d B n c,A=some a/\P a.block/\At w (a.add (j * 6)) d B n c/\IsP P w l[j] d B n:=by
 rw [IsP]
 refine ⟨fun ⟨h1,h2,h3,h4⟩ => ⟨h1,h2,h3,fun j hj => by have:=isPL_at h4 j hj; rwa [Nat.zero_add] at this⟩,fun ⟨h1,h2,h3,h4⟩ => ⟨h1,h2,h3,isPL_of fun j hj => by rw [Nat.zero_add]; exact h4 j hj⟩⟩
theorem IsP.is {P:Nat->Prop} {w:World}:∀ (x:Ex) (d:Nd) (A:Option Addr) (n:Nat),IsP P w x d A n->Is w x d A n:=by
 refine Ex.ind fun d l ih => ?_
 intro d' A n h
 rw [isP_mk] at h
 rw [is_mk]
 obtain ⟨h1,h2,h3,h4⟩:=h
 refine ⟨h1,h2,h3,fun j hj => ?_⟩
 obtain ⟨a,d2,B,m,c,e,_,ha,hi⟩:=h4 j hj
 exact ⟨a,d2,B,m,c,e,ha,ih _ (List.getElem_mem _) _ _ _ hi⟩
theorem At.of_block {w w':World} {p:Addr} {d:Nd} {A:Option Addr} {n c:Nat} (h:At w p d A n c) (hb:w'.heap[p.block]?=w.heap[p.block]?):At w' p d A n c :=
 h.keep fun q hq => World.cell?_of_block (by rw [hq]; exact hb)
theorem IsP.keep {P Q:Nat->Prop} {w w':World} (hk:∀ b,P b->b < w.heap.size->w'.heap[b]?=w.heap[b]?) (hq:∀ b,P b->b < w.heap.size->Q b):∀ (x:Ex) (d:Nd) (A:Option Addr) (n:Nat),IsP P w x d A n->IsP Q w' x d A n:=by
 refine Ex.ind fun d l ih => ?_
 intro d' A n h
 rw [isP_mk] at h ⊢
 obtain ⟨h1,h2,h3,h4⟩:=h
 refine ⟨h1,h2,h3,fun j hj => ?_⟩
 obtain ⟨a,d2,B,m,c,e,hp,ha,hi⟩:=h4 j hj
 have hlt:=ha.lt
 rw [block_of_add] at hlt
 exact ⟨a,d2,B,m,c,e,hq _ hp hlt,At.of_block ha (by rw [block_of_add]; exact hk _ hp hlt),ih _ (List.getElem_mem _) _ _ _ hi⟩
theorem IsP.below {P:Nat->Prop} {w w':World} {x:Ex} {d:Nd} {A:Option Addr} {n:Nat} (h:IsP P w x d A n) (hb:Below w.heap.size w w'):IsP P w' x d A n:=IsP.keep (fun b _ hl => hb.block b hl) (fun _ h _ => h) x d A n h
theorem IsP.imp {P Q:Nat->Prop} {w:World} {x:Ex} {d:Nd} {A:Option Addr} {n:Nat} (h:IsP P w x d A n) (hq:∀ b,P b->b < w.heap.size->Q b):IsP Q w x d A n:=IsP.keep (fun _ _ _ => rfl) hq x d A n h
theorem isP_leaf (P:Nat->Prop) (w:World) (d:Nd) (A:Option Addr) (hs:d.s.size<=maxLen) (hn:d.nm.size<=maxLen):IsP P w (.mk d []) d A 0:=isP_mk.2 ⟨rfl,rfl,⟨Nat.zero_le _,hs,hn⟩,fun j hj => absurd hj (by simp)⟩
structure El where
 x:Ex
 d:Nd
 A:Option Addr
 n:Nat
 c:Nat
def El.cells (e:El):List Value:=[.int .i64 e.d.op,.int .i64 e.d.k,.int .i64 e.d.n,.string e.d.s,.string e.d.nm,.slice e.A e.n e.c]
def elC (es:List El):List Value:=es.flatMap El.cells
theorem elC_snoc (es:List El) (e:El):elC (es ++ [e])=elC es ++ e.cells:=by unfold elC; rw [List.flatMap_append]; simp
theorem elC_at (es:List El):∀ (i:Nat) (h:i < es.length) (j:Nat),j < 6->(elC es)[i * 6 + j]?=(es[i]).cells[j]?:=by
 induction es with
 | nil => intro i h; simp at h
 | cons e es ih =>
  intro i h j hj
  have e1:elC (e :: es)=e.cells ++ elC es:=by unfold elC; rw [List.flatMap_cons]
  rw [e1]
  cases i with
  | zero => rw [List.getElem?_append_left (by simp [El.cells]; omega)]; simp
  | succ i =>
   rw [List.getElem?_append_right (by simp [El.cells]; omega),show (i + 1) * 6 + j - e.cells.length=i * 6 + j by simp [El.cells]; omega]
   simpa using ih i (by simpa using h) j hj
theorem add_block (g i:Nat):((⟨g,0,none⟩:Addr).add i)=⟨g,i,none⟩:=by unfold Addr.add; by_cases h:i=0 <;> simp [h]
theorem isP_row {P:Nat->Prop} {w:World} {d:Nd} {es:List El} {g:Nat} (hc:∀ j,j < es.length * 6->w.cell? ⟨g,j,none⟩=(elC es)[j]?) (hP:P g) (hl:es.length<=maxLen) (hs:d.s.size<=maxLen) (hn:d.nm.size<=maxLen)
  (hi:∀ e ∈ es,IsP P w e.x e.d e.A e.n):IsP P w (.mk d (es.map El.x)) d (some ⟨g,0,none⟩) es.length:=by
 rw [isP_mk]
 refine ⟨rfl,by simp,⟨hl,hs,hn⟩,fun j hj => ?_⟩
 have hj':j < es.length:=by simpa using hj
 have f:=fun i (h6:i < 6) => (hc (j * 6 + i) (by omega)).trans (elC_at es j hj' i h6)
 refine ⟨⟨g,0,none⟩,es[j].d,es[j].A,es[j].n,es[j].c,rfl,hP,?_,by simpa using hi es[j] (List.getElem_mem _)⟩
 rw [add_block]
 exact ⟨f 0 (by decide),f 1 (by decide),f 2 (by decide),f 3 (by decide),f 4 (by decide),f 5 (by decide)⟩
end ExP
namespace ExS
open Go.RowKit
open ExM Kit ExL
set_option linter.unusedVariables false
def Row (w:World) (A:Option Addr) (l:List Ex):Prop:=∀ (j:Nat) (h:j < l.length),∃ a d B n c,A=some a/\At w (a.add (j * 6)) d B n c/\Is w l[j] d B n
theorem Row.below {w w':World} {A:Option Addr} {l:List Ex} (h:Row w A l) (hb:Below w.heap.size w w'):Row w' A l:=fun j hj => by
 obtain ⟨a,d,B,n,c,e,ha,hi⟩:=h j hj
 exact ⟨a,d,B,n,c,e,ha.below hb,hi.below hb⟩
theorem is_d {w:World} {x:Ex} {d:Nd} {A:Option Addr} {n:Nat} (h:Is w x d A n):d=x.d:=by
 cases x; rw [is_mk] at h; exact h.1
end ExS
namespace RawL
open Go.RowKit
open ValM LexM NumM ExM Kit ExL RawV Within
set_option linter.unusedVariables false
def Raws (w:World) (A:Option Addr) (n c:Nat):Prop :=
 n<=c/\c<=maxLen/\∀ i,i < n->∃ (a:Addr) (k x y:Int) (t:ByteArray),A=some a/\w.cell? (a.add (i * 4))=some (.int .i64 k)/\w.cell? ⟨(a.add (i * 4)).block,(a.add (i * 4)).off + 1,none⟩=some (.int .i64 x)/\w.cell? ⟨(a.add (i * 4)).block,(a.add (i * 4)).off + 2,none⟩=some (.int .i64 y)/\w.cell? ⟨(a.add (i * 4)).block,(a.add (i * 4)).off + 3,none⟩=some (.string t) ∧
  (Lit.int .i64 k).wf=true/\(Lit.int .i64 x).wf=true/\(Lit.int .i64 y).wf=true/\t.size<=maxLen
def Gen (w:World) (G:Nat) (A:Option Addr) (n c:Nat) (at_:Nat):Prop:=w.heap[G]?=some (.cells #[.slice A n c,.int .i64 (at_:Int)] 54 (0,0))
theorem Gen.cells {w:World} {G:Nat} {A:Option Addr} {n c a:Nat} (h:Gen w G A n c a):w.cell? ⟨G,0,none⟩=some (.slice A n c)/\w.cell? ⟨G,1,none⟩=some (.int .i64 (a:Int))/\w.frozen? ⟨G,1,none⟩=false:=by
 unfold Gen at h
 refine ⟨?_,?_,?_⟩ <;> simp [World.cell?,World.frozen?,h]
theorem Gen.lt {w:World} {G:Nat} {A:Option Addr} {n c a:Nat} (h:Gen w G A n c a):G < w.heap.size:=(Array.getElem?_eq_some_iff.1 h).1
theorem Gen.below {w w':World} {G:Nat} {A:Option Addr} {n c a:Nat} (h:Gen w G A n c a) (hb:Below w.heap.size w w'):Gen w' G A n c a:=(hb.block G h.lt).trans h
theorem Gen.alloc {w:World} {G:Nat} {A:Option Addr} {n c a:Nat} (h:Gen w G A n c a) (o:Obj):Gen (w.alloc o) G A n c a:=h.below (b_new w o)
theorem Gen.none2 {w:World} {G:Nat} {A:Option Addr} {n c a:Nat} (h:Gen w G A n c a) (j:Nat):w.cell? ⟨G,j + 2,none⟩=none:=by
 unfold Gen at h
 simp [World.cell?,h]
abbrev Gr (G:Nat) (w w':World):Prop:=w.grownBy w' (some G)
theorem Gr.of_below {G:Nat} {w w':World} (h:Below w.heap.size w w'):Gr G w w':=⟨h.os,h.tape,h.output,h.size,fun k hk _ => h.block k hk⟩
theorem Gr.refl (G:Nat) (w:World):Gr G w w:=Gr.of_below (Below.refl _ _)
theorem Gr.trans {G:Nat} {a b c:World} (h:Gr G a b) (g:Gr G b c):Gr G a c:=⟨g.os.trans h.os,g.tape.trans h.tape,g.output.trans h.output,Nat.le_trans h.size g.size,fun k hk hne => (g.block k (Nat.lt_of_lt_of_le hk h.size) hne).trans (h.block k hk hne)⟩
theorem Gen.step {w:World} {G:Nat} {A:Option Addr} {n c a:Nat} (h:Gen w G A n c a):Gen (w.setCell ⟨G,1,none⟩ (.int .i64 ((a:Int) + 1))) G A n c (a + 1)/\Gr G w (w.setCell ⟨G,1,none⟩ (.int .i64 ((a:Int) + 1))):=by
 refine ⟨?_,rfl,rfl,rfl,by simp [World.setCell],fun k _ hk => Below.heap_setCell _ _ _ k (fun e => hk (by rw [e]))⟩
 unfold Gen at h ⊢
 simp [World.setCell,Array.getElem?_modify,h]
end RawL
namespace GenL
open Go.RowKit
open ValM LexM NumM ExM Kit ExL RawV Within RawL
set_option linter.unusedVariables false
theorem own_below {w w1:World} {base:Nat} {e:TypeId} {size:Nat} {v:Value} {n:Nat} {xs:List Value} (h:w.ownsRow base e size v n xs) (hb:Below w.heap.size w w1):w1.ownsRow base e size v n xs :=
 h.kept (row:=none) ⟨hb.os,hb.tape,hb.output,hb.size,fun k hk _ => hb.block k hk⟩ (by cases hv:v.ownBlock <;> simp)
theorem own_slice {w:World} {base:Nat} {e:TypeId} {size:Nat} {v:Value} {n:Nat} {xs:List Value} (h:w.ownsRow base e size v n xs):∃ A c,v=.slice A n c:=by
 rcases h.2 with ⟨h1,h2⟩ | ⟨g,cap,cur,h1,_⟩
 ·exact ⟨none,0,by rw [h2]; exact h1⟩
 ·exact ⟨some ⟨g,0,none⟩,cap,h1⟩
theorem own_form {w:World} {base:Nat} {e:TypeId} {size:Nat} {v:Value} {n:Nat} {xs:List Value} (h:w.ownsRow base e size v n xs) (hn:0 < n) :
  ∃ g cap,v=.slice (some ⟨g,0,none⟩) n cap/\base<=g/\g < w.heap.size/\n<=cap/\cap<=maxLen/\∀ j,j < n * size->w.cell? ⟨g,j,none⟩=xs[j]?:=by
 rcases h.2 with ⟨_,h2⟩ | ⟨g,cap,cur,h1,h2,h3,h4,h5,_⟩
 ·omega
 ·subst h1
  have hl:=h.lt g rfl
  exact ⟨g,cap,rfl,h2,hl.2,h4,h5,fun j hj => h.cellAt j hj⟩
theorem b_set {w w1:World} {p:Addr} {v:Value} (h:Below w.heap.size w w1) (hp:w.heap.size<=p.block):Below w.heap.size w (w1.setCell p v):=h.setCell hp v
theorem known_int {n:Int} (h:okN n=true):knownB 1 n []=true:=by
 unfold knownB valE numE; rw [if_pos rfl,h]; rfl
structure Fd where
 nm:ByteArray
 kind:Int
 ty:Int
 d:Nd
 A:Option Addr
 n:Nat
 c:Nat
def FdAt (w:World) (p:Addr) (f:Fd):Prop :=
 w.cell? p=some (.string f.nm)/\w.cell? ⟨p.block,p.off + 1,none⟩=some (.int .i64 f.kind)/\w.cell? ⟨p.block,p.off + 2,none⟩=some (.int .i64 f.ty)/\w.cell? ⟨p.block,p.off + 3,none⟩=some (.int .i64 f.d.op)/\w.cell? ⟨p.block,p.off + 4,none⟩=some (.int .i64 f.d.k)/\w.cell? ⟨p.block,p.off + 5,none⟩=some (.int .i64 f.d.n)/\w.cell? ⟨p.block,p.off + 6,none⟩=some (.string f.d.s)/\w.cell? ⟨p.block,p.off + 7,none⟩=some (.string f.d.nm)/\w.cell? ⟨p.block,p.off + 8,none⟩=some (.slice f.A f.n f.c)
theorem FdAt.of_block {w w':World} {p:Addr} {f:Fd} (h:FdAt w p f) (hb:w'.heap[p.block]?=w.heap[p.block]?):FdAt w' p f:=by
 obtain ⟨h0,h1,h2,h3,h4,h5,h6,h7,h8⟩:=h
 exact ⟨(World.cell?_of_block hb).trans h0,(World.cell?_of_block (a:=⟨p.block,p.off + 1,none⟩) hb).trans h1,(World.cell?_of_block (a:=⟨p.block,p.off + 2,none⟩) hb).trans h2,(World.cell?_of_block (a:=⟨p.block,p.off + 3,none⟩) hb).trans h3,(World.cell?_of_block (a:=⟨p.block,p.off + 4,none⟩) hb).trans h4,(World.cell?_of_block (a:=⟨p.block,p.off + 5,none⟩) hb).trans h5,(World.cell?_of_block (a:=⟨p.block,p.off + 6,none⟩) hb).trans h6,(World.cell?_of_block (a:=⟨p.block,p.off + 7,none⟩) hb).trans h7,(World.cell?_of_block (a:=⟨p.block,p.off + 8,none⟩) hb).trans h8⟩
theorem FdAt.lt {w:World} {p:Addr} {f:Fd} (h:FdAt w p f):p.block < w.heap.size:=cell_lt' h.1
def Flds (w:World) (A:Option Addr) (fs:List Fd):Prop:=∀ (i:Nat) (h:i < fs.length),∃ a,A=some a/\FdAt w (a.add (i * 9)) fs[i]
theorem Flds.below {w w':World} {A:Option Addr} {fs:List Fd} (h:Flds w A fs) (hb:Below w.heap.size w w'):Flds w' A fs:=fun i hi => by
 obtain ⟨a,e,hf⟩:=h i hi
 exact ⟨a,e,hf.of_block (hb.block _ hf.lt)⟩
theorem Gr.flds {G:Nat} {w w':World} {A A':Option Addr} {fs:List Fd} {n' c' a:Nat} (h:Gr G w w') (hg:Gen w G A' n' c' a) (hf:Flds w A fs):Flds w' A fs:=fun i hi => by
 obtain ⟨ad,e,hf⟩:=hf i hi
 refine ⟨ad,e,hf.of_block (h.block _ hf.lt (fun e => ?_))⟩
 injection e with e
 have h2:=hf.2.2.1
 rw [e,hg.none2] at h2; cases h2
theorem Gen.far {w:World} {G:Nat} {A:Option Addr} {n c a:Nat} {p:Addr} (h:Gen w G A n c a) (hp:G ≠ p.block) (v:Value):Gen (w.setCell p v) G A n c a:=(Below.heap_setCell w p v G hp).trans h
theorem Gr.set {G:Nat} {w w1:World} {p:Addr} {v:Value} (h:Gr G w w1) (hp:w.heap.size<=p.block):Gr G w (w1.setCell p v) :=
 ⟨h.os,h.tape,h.output,by simp [World.setCell]; exact h.size,fun k hk hne => (Below.heap_setCell w1 p v k (by omega)).trans (h.block k hk hne)⟩
def LeafD (fs:List Fd) (kind:Int) (d:Nd):Prop :=
 (d.op=1/\d.nm=⟨#[]⟩/\d.k=vK kind/\knownB d.k d.n d.s.data.toList=true/\(d.k=1->0<=d.n)) ∨
 (d.op=2/\d.k=0/\d.n=0/\d.s=⟨#[]⟩/\∃ f ∈ fs,f.nm=d.nm/\f.ty=kind)
theorem infoStr:(Tryz.prog.info? 9).map (fun i => (i.zero,i.size,i.bytes))=some (some (.string ⟨#[]⟩),1,16):=by kernel_rfl
end GenL
namespace FrmM
open Go.RowKit
open ValM LexM NumM ExM Kit ExL ExP RawV Within RawL GenL
set_option linter.unusedVariables false
structure FV where
 nm:ByteArray
 kind:Int
 ty:Int
 x:Ex
def zeroN:Nd:=⟨0,0,0,⟨#[]⟩,⟨#[]⟩⟩
def zeroX:Ex:=.mk zeroN []
structure PV where
 nm:ByteArray
 fs:List ByteArray
 x:Ex
structure FE where
 nm:ByteArray
 kind:Int
 ty:Int
 x:Ex
 B:Option Addr
 m:Nat
 c:Nat
def FE.fd (e:FE):GenL.Fd:=⟨e.nm,e.kind,e.ty,e.x.d,e.B,e.m,e.c⟩
def FE.v (e:FE):FV:=⟨e.nm,e.kind,e.ty,e.x⟩
def fdC (f:GenL.Fd):List Value:=[.string f.nm,.int .i64 f.kind,.int .i64 f.ty,.int .i64 f.d.op,.int .i64 f.d.k,.int .i64 f.d.n,.string f.d.s,.string f.d.nm,.slice f.A f.n f.c]
def feC:List FE->List Value
 | [] => []
 | e :: l => fdC e.fd ++ feC l
theorem feC_app:∀ (a b:List FE),feC (a ++ b)=feC a ++ feC b
 | [],b => rfl
 | e :: l,b => by show fdC e.fd ++ feC (l ++ b)=_; rw [feC_app l b,← List.append_assoc]; rfl
theorem feC_snoc (es:List FE) (e:FE):feC (es ++ [e])=feC es ++ fdC e.fd:=by
 rw [feC_app]; show _ ++ (fdC e.fd ++ [])=_; rw [List.append_nil]
theorem feC_len:∀ (es:List FE),(feC es).length=es.length * 9
 | [] => rfl
 | e :: l => by show (fdC e.fd ++ feC l).length=_; rw [List.length_append,feC_len l]; simp [fdC]; omega
theorem feC_at:∀ (es:List FE) (i j:Nat) (h:i < es.length),j < 9->(feC es)[i * 9 + j]?=(fdC es[i].fd)[j]?
 | e :: l,0,j,h,hj => by
  show (fdC e.fd ++ feC l)[0 * 9 + j]?=_
  rw [Nat.zero_mul,Nat.zero_add,List.getElem?_append_left (by simpa [fdC] using hj)]; rfl
 | e :: l,i + 1,j,h,hj => by
  show (fdC e.fd ++ feC l)[(i + 1) * 9 + j]?=_
  rw [List.getElem?_append_right (by simp [fdC]; omega),show (i + 1) * 9 + j - (fdC e.fd).length=i * 9 + j by simp [fdC]; omega,feC_at l i j (by simpa using h) hj]; rfl
theorem fdAt_of {w:World} {g o:Nat} {f:GenL.Fd} (h:∀ j,j < 9->w.cell? ⟨g,o + j,none⟩=(fdC f)[j]?):FdAt w ⟨g,o,none⟩ f :=
 ⟨h 0 (by decide),h 1 (by decide),h 2 (by decide),h 3 (by decide),h 4 (by decide),h 5 (by decide),h 6 (by decide),h 7 (by decide),h 8 (by decide)⟩
theorem flds_of {w:World} {g:Nat} {es:List FE} (hc:∀ j,j < es.length * 9->w.cell? ⟨g,j,none⟩=(feC es)[j]?):Flds w (some ⟨g,0,none⟩) (es.map FE.fd):=fun i hi => by
 refine ⟨_,rfl,?_⟩
 rw [add_block]
 have hi':i < es.length:=by simpa using hi
 rw [List.getElem_map]
 refine fdAt_of fun j hj => ?_
 rw [hc _ (by omega),feC_at es i j hi' hj]
theorem own_flds {w:World} {base k:Nat} {v:Value} {es:List FE} (h:w.ownsRow base 47 9 v k (feC es)) (hk:es.length=k):∃ A c,v=.slice A (es.map FE.fd).length c/\Flds w A (es.map FE.fd):=by
 subst hk
 rcases Nat.eq_zero_or_pos es.length with h0 | h0
 ·obtain ⟨A,c,e⟩:=own_slice h
  exact ⟨A,c,by rw [e,List.length_map],fun i hi => absurd hi (by simp; omega)⟩
 ·obtain ⟨g,cap,e,_,_,_,_,hc⟩:=own_form h h0
  exact ⟨_,cap,by rw [e,List.length_map],flds_of hc⟩
structure PE where
 nm:ByteArray
 fs:List ByteArray
 F:Option Addr
 fc:Nat
 x:Ex
 B:Option Addr
 m:Nat
 c:Nat
def PE.v (e:PE):PV:=⟨e.nm,e.fs,e.x⟩
def pgC (e:PE):List Value:=[.string e.nm,.slice e.F e.fs.length e.fc,.int .i64 e.x.d.op,.int .i64 e.x.d.k,.int .i64 e.x.d.n,.string e.x.d.s,.string e.x.d.nm,.slice e.B e.m e.c]
def peC:List PE->List Value
 | [] => []
 | e :: l => pgC e ++ peC l
theorem peC_app:∀ (a b:List PE),peC (a ++ b)=peC a ++ peC b
 | [],b => rfl
 | e :: l,b => by show pgC e ++ peC (l ++ b)=_; rw [peC_app l b,← List.append_assoc]; rfl
theorem peC_snoc (es:List PE) (e:PE):peC (es ++ [e])=peC es ++ pgC e:=by
 rw [peC_app]; show _ ++ (pgC e ++ [])=_; rw [List.append_nil]
theorem peC_at:∀ (es:List PE) (i j:Nat) (h:i < es.length),j < 8->(peC es)[i * 8 + j]?=(pgC es[i])[j]?
 | e :: l,0,j,h,hj => by
  show (pgC e ++ peC l)[0 * 8 + j]?=_
  rw [Nat.zero_mul,Nat.zero_add,List.getElem?_append_left (by simpa [pgC] using hj)]; rfl
 | e :: l,i + 1,j,h,hj => by
  show (pgC e ++ peC l)[(i + 1) * 8 + j]?=_
  rw [List.getElem?_append_right (by simp [pgC]; omega),show (i + 1) * 8 + j - (pgC e).length=i * 8 + j by simp [pgC]; omega,peC_at l i j (by simpa using h) hj]; rfl
def StrP (P:Nat->Prop) (w:World) (A:Option Addr) (l:List ByteArray):Prop:=∀ (j:Nat) (h:j < l.length),∃ a:Addr,A=some a/\P a.block/\w.cell? (a.add j)=some (.string l[j])
theorem StrP.keep {P Q:Nat->Prop} {w w':World} {A:Option Addr} {l:List ByteArray} (h:StrP P w A l) (hk:∀ b,P b->b < w.heap.size->w'.heap[b]?=w.heap[b]?) (hq:∀ b,P b->b < w.heap.size->Q b):StrP Q w' A l:=fun j hj => by
 obtain ⟨a,e,hp,hc⟩:=h j hj
 have hl:a.block < w.heap.size:=by have:=cell_lt' hc; rwa [block_of_add] at this
 exact ⟨a,e,hq _ hp hl,(World.cell?_of_block (by rw [block_of_add]; exact hk _ hp hl)).trans hc⟩
structure PIs (P:Nat->Prop) (w:World) (e:PE):Prop where
 str:StrP P w e.F e.fs
 skip:IsP P w e.x e.x.d e.B e.m
 len:e.fs.length<=10
 cap:e.fs.length<=e.fc
theorem PIs.keep {P Q:Nat->Prop} {w w':World} {e:PE} (h:PIs P w e) (hk:∀ b,P b->b < w.heap.size->w'.heap[b]?=w.heap[b]?) (hq:∀ b,P b->b < w.heap.size->Q b):PIs Q w' e :=
 ⟨h.str.keep hk hq,IsP.keep hk hq _ _ _ _ h.skip,h.len,h.cap⟩
end FrmM
namespace Num
open Go.RowKit
open NumM
set_option linter.unusedVariables false
theorem ret_int {k:IntKind} {a b:Int} (h:a=b):Ending.returned (.int k a)=.returned (.int k b):=by rw [h]
theorem hmf:∀ (fn:Fn) (first cap:Array Value) (w:World),(Instr.makeFunc fn first cap).run Tryz.prog w=.ok (.func fn first cap) w:=fun _ _ _ _ => rfl
theorem check_in (n:Int) (w:World) (h1:-1099511627776<=n) (h2:n<=1099511627776) :
  Calls Tryz.prog 154 #[.int .i64 n] w fun e w' => e=.returned (.int .i64 0)/\w=w':=by
 go_enter Tryz.func154,Tryz.ntmps154
 go_wp2
 go_ret
 exact ⟨rfl,rfl⟩
theorem check_out (n:Int) (w:World) (h:n < -1099511627776 ∨ 1099511627776 < n) :
  Calls Tryz.prog 154 #[.int .i64 n] w fun e w' => e=.returned (.int .i64 7)/\w=w':=by
 rcases h with h | h
 ·go_enter Tryz.func154,Tryz.ntmps154
  go_wp2
  go_ret
  exact ⟨rfl,rfl⟩
 ·have h':¬ n < -1099511627776:=by omega
  go_enter Tryz.func154,Tryz.ntmps154
  go_wp2
  go_ret
  exact ⟨rfl,rfl⟩
theorem check_any (n:Int) (w:World) :
  Calls Tryz.prog 154 #[.int .i64 n] w fun e w' => e=.returned (.int .i64 (if okN n then 0 else 7))/\w=w':=by
 by_cases h:okN n=true
 ·rw [if_pos h]; exact check_in n w (okN_iff.1 h).1 (okN_iff.1 h).2
 ·rw [if_neg h]; exact check_out n w (okN_not.1 h)
end Num
namespace Num
open Go.RowKit
open NumM
set_option linter.unusedVariables false
end Num
namespace NumRef
open Go.RowKit
open NumM
set_option linter.unusedVariables false
end NumRef
namespace Val
open Go.RowKit
open NumM ValM
set_option linter.unusedVariables false
theorem within_in (n a b:Int) (w:World) (h1:a<=n) (h2:n<=b) :
  Calls Tryz.prog 155 #[.int .i64 n,.int .i64 a,.int .i64 b] w fun e w' => e=.returned (.int .i64 0)/\w=w':=by
 go_enter Tryz.func155,Tryz.ntmps155
 go_wp2
 go_ret
 exact ⟨rfl,rfl⟩
theorem within_out (n a b:Int) (w:World) (h:n < a ∨ (a<=n/\b < n)) :
  Calls Tryz.prog 155 #[.int .i64 n,.int .i64 a,.int .i64 b] w fun e w' => e=.returned (.int .i64 4)/\w=w':=by
 rcases h with h | ⟨h,h'⟩
 all_goals
  go_enter Tryz.func155,Tryz.ntmps155
  go_wp2
  go_ret
  exact ⟨rfl,rfl⟩
theorem within_any (n a b:Int) (w:World) :
  Calls Tryz.prog 155 #[.int .i64 n,.int .i64 a,.int .i64 b] w fun e w' => e=.returned (.int .i64 (if a<=n/\n<=b then 0 else 4))/\w=w':=by
 by_cases h:a<=n/\n<=b
 ·rw [if_pos h]; exact within_in n a b w h.1 h.2
 ·rw [if_neg h]; exact within_out n a b w (by omega)
theorem isType_any (k:Int) (w:World) :
  Calls Tryz.prog 128 #[.int .i64 k] w fun e w' => e=.returned (.bool (isT k))/\w=w':=by
 by_cases h1:k=1
 ·subst h1
  go_enter Tryz.func128,Tryz.ntmps128
  go_wp2
  go_ret
  exact ⟨rfl,rfl⟩
 ·by_cases h2:k=2
  ·subst h2
   go_enter Tryz.func128,Tryz.ntmps128
   go_wp2
   go_ret
   exact ⟨rfl,rfl⟩
  ·by_cases h3:k=3
   ·subst h3
    go_enter Tryz.func128,Tryz.ntmps128
    go_wp2
    go_ret
    exact ⟨rfl,rfl⟩
   ·have e:isT k=false:=by simp [isT,h1,h2,h3]
    rw [e]
    have e1:(k == 1)=false:=beq_eq_false_iff_ne.2 h1
    have e2:(k == 2)=false:=beq_eq_false_iff_ne.2 h2
    have e3:(k == 3)=false:=beq_eq_false_iff_ne.2 h3
    clear h1 h2 h3 e
    go_enter Tryz.func128,Tryz.ntmps128
    go_wp2
    go_ret
    exact ⟨rfl,rfl⟩
theorem number_any (k n:Int) (s:ByteArray) (w:World) :
  Calls Tryz.prog 139 #[.agg #[.int .i64 k,.int .i64 n,.string s]] w fun e w' => e=.returned (.int .i64 (numE k n))/\Below w.heap.size w w':=by
 by_cases h1:k=1
 ·subst h1
  obtain ⟨q,hq⟩:∃ q:Int,numE 1 n=q:=⟨_,rfl⟩
  have hc:∀ W:World,Calls Tryz.prog 154 #[.int .i64 n] W fun e w' => e=.returned (.int .i64 q)/\W=w':=fun W => by rw [← hq]; exact Num.check_any n W
  rw [hq]
  have HC:=Lib.hid hc
  clear hc hq
  go_enter Tryz.func139,Tryz.ntmps139
  go_wp2_with fail
  refine (HC.out _).mono ?_; rintro e w1 ⟨rfl,rfl⟩
  go_wp2_with fail
  go_ret
  exact ⟨rfl,(Below.refl _ _).alloc (Nat.le_refl _) _⟩
 ·by_cases h2:k=2
  ·subst h2
   obtain ⟨q,hq⟩:∃ q:Int,numE 2 n=q:=⟨_,rfl⟩
   have hc:∀ W:World,Calls Tryz.prog 155 #[.int .i64 n,.int .i64 0,.int .i64 1] W fun e w' => e=.returned (.int .i64 q)/\W=w':=fun W => by rw [← hq]; exact within_any n 0 1 W
   rw [hq]
   have HC:=Lib.hid hc
   clear hc hq
   go_enter Tryz.func139,Tryz.ntmps139
   go_wp2_with fail
   refine (HC.out _).mono ?_; rintro e w1 ⟨rfl,rfl⟩
   go_wp2_with fail
   go_ret
   exact ⟨rfl,(Below.refl _ _).alloc (Nat.le_refl _) _⟩
  ·by_cases h3:k=3 ∨ k=4
   ·obtain ⟨q,hq⟩:∃ q:Int,numE k n=q:=⟨_,rfl⟩
    have hc:∀ W:World,Calls Tryz.prog 155 #[.int .i64 n,.int .i64 0,.int .i64 0] W fun e w' => e=.returned (.int .i64 q)/\W=w':=fun W => by
     have e:numE k n=if 0<=n/\n<=0 then 0 else 4:=by
      unfold numE; rw [if_neg h1,if_neg h2,if_pos h3]
      by_cases hn:n=0
      ·rw [if_pos hn,if_pos (by omega)]
      ·rw [if_neg hn,if_neg (by omega)]
     rw [← hq,e]; exact within_any n 0 0 W
    rw [hq]
    have HC:=Lib.hid hc
    clear hc hq h1 h2
    rcases h3 with rfl | rfl
    all_goals
     go_enter Tryz.func139,Tryz.ntmps139
     go_wp2_with fail
     refine (HC.out _).mono ?_; rintro e w1 ⟨rfl,rfl⟩
     go_wp2_with fail
     go_ret
     exact ⟨rfl,(Below.refl _ _).alloc (Nat.le_refl _) _⟩
   ·by_cases h5:k=5
    ·subst h5
     obtain ⟨q,hq⟩:∃ q:Int,numE 5 n=q:=⟨_,rfl⟩
     have hc:∀ W:World,Calls Tryz.prog 155 #[.int .i64 n,.int .i64 1,.int .i64 15] W fun e w' => e=.returned (.int .i64 q)/\W=w':=fun W => by rw [← hq]; exact within_any n 1 15 W
     rw [hq]
     have HC:=Lib.hid hc
     clear hc hq h1 h2 h3
     go_enter Tryz.func139,Tryz.ntmps139
     go_wp2_with fail
     refine (HC.out _).mono ?_; rintro e w1 ⟨rfl,rfl⟩
     go_wp2_with fail
     go_ret
     exact ⟨rfl,(Below.refl _ _).alloc (Nat.le_refl _) _⟩
    ·have e:numE k n=2:=by unfold numE; rw [if_neg h1,if_neg h2,if_neg h3,if_neg h5]
     rw [e]
     have e1:(k == 1)=false:=beq_eq_false_iff_ne.2 h1
     have e2:(k == 2)=false:=beq_eq_false_iff_ne.2 h2
     have e3:(k == 3)=false:=beq_eq_false_iff_ne.2 (fun g => h3 (.inl g))
     have e4:(k == 4)=false:=beq_eq_false_iff_ne.2 (fun g => h3 (.inr g))
     have e5:(k == 5)=false:=beq_eq_false_iff_ne.2 h5
     clear h1 h2 h3 h5 e
     go_enter Tryz.func139,Tryz.ntmps139
     go_wp2_with fail
     go_ret
     exact ⟨rfl,(Below.refl _ _).alloc (Nat.le_refl _) _⟩
theorem empty_b (s:ByteArray) (h:0 < s.size):(!s.toList.isEmpty)=true/\s.toList.isEmpty=false:=by
 have:=not_nil s h
 have h2:s.data.toList.isEmpty=false:=List.isEmpty_eq_false_iff.2 this
 rw [ByteArray.toList_eq,h2]
 exact ⟨rfl,rfl⟩
theorem string_other (k n:Int) (s:ByteArray) (w:World) (hk:k ≠ 3) :
  Calls Tryz.prog 140 #[.agg #[.int .i64 k,.int .i64 n,.string s]] w fun e w' => e=.returned (.int .i64 (strE k s.data.toList))/\Below w.heap.size w w':=by
 have e3:(k != 3)=true:=bne_iff_ne.2 hk
 rw [strE_other hk]
 by_cases h0:s.size=0
 ·have hs0:s=ByteArray.empty:=ByteArray.size_eq_zero_iff.1 h0
  subst hs0
  clear hk h0
  go_enter Tryz.func140,Tryz.ntmps140
  go_wp2
  go_loop [3] (fun i => i=.int .i64 0) (fun _ => 0)
  case atStart => rfl
  case round =>
   subst hrel
   go_wp2
   go_ret
   exact ⟨rfl,(Below.refl _ _).alloc (Nat.le_refl _) _⟩
 ·have hn:=not_nil s (by omega)
  obtain ⟨hne,hne'⟩:=empty_b s (by omega)
  rw [if_neg hn]
  clear hn hk h0
  go_enter Tryz.func140,Tryz.ntmps140
  go_wp2
  go_ret
  exact ⟨rfl,(Below.refl _ _).alloc (Nat.le_refl _) _⟩
theorem string_long (n:Int) (s:ByteArray) (w:World) (hs:40 < s.size) :
  Calls Tryz.prog 140 #[.agg #[.int .i64 3,.int .i64 n,.string s]] w fun e w' => e=.returned (.int .i64 1)/\Below w.heap.size w w':=by
 go_enter Tryz.func140,Tryz.ntmps140
 go_wp2
 go_ret
 exact ⟨rfl,(Below.refl _ _).alloc (Nat.le_refl _) _⟩
theorem string_short (n:Int) (s:ByteArray) (w:World) (hs:s.size<=40) :
  Calls Tryz.prog 140 #[.agg #[.int .i64 3,.int .i64 n,.string s]] w fun e w' => e=.returned (.int .i64 (strE 3 s.data.toList))/\Below w.heap.size w w':=by
 go_enter Tryz.func140,Tryz.ntmps140
 go_wp2
 go_loop [3] (fun i => ∃ k:Nat,k<=s.size/\i=.int .i64 k/\cleanL (s.data.toList.take k)=true) (fun i => s.size - (intOf i).toNat)
 case atStart => exact ⟨0,Nat.zero_le _,rfl,rfl⟩
 case round =>
  obtain ⟨k,hk,rfl,hcl⟩:=hrel
  have HC:=Lib.hid hcl
  clear hcl
  by_cases hlt:k < s.size
  ·by_cases h1:s[k].toNat < 32
   ·have h1':((s[k].toNat:Int) < 32):=by omega
    go_wp2
    go_ret
    exact ⟨Num.ret_int (strE_foul hs (cleanL_bad s k hlt (.inl h1))).symm,(Below.refl _ _).alloc (Nat.le_refl _) _⟩
   ·by_cases h2:126 < s[k].toNat
    ·go_wp2
     go_ret
     exact ⟨Num.ret_int (strE_foul hs (cleanL_bad s k hlt (.inr h2))).symm,(Below.refl _ _).alloc (Nat.le_refl _) _⟩
    ·go_wp2
     go_round
     case rel => exact ⟨k + 1,by omega,by go_num,cleanL_step s k hlt HC.out (by omega) (by omega)⟩
     case measure => simp [intOf]; omega
  ·go_wp2
   go_ret
   exact ⟨Num.ret_int (strE_clean hs (cleanL_all s k (by omega) HC.out)).symm,(Below.refl _ _).alloc (Nat.le_refl _) _⟩
theorem string_any (k n:Int) (s:ByteArray) (w:World) :
  Calls Tryz.prog 140 #[.agg #[.int .i64 k,.int .i64 n,.string s]] w fun e w' => e=.returned (.int .i64 (strE k s.data.toList))/\Below w.heap.size w w':=by
 by_cases hk:k=3
 ·subst hk
  by_cases hs:40 < s.size
  ·rw [strE_long (by rw [len_size]; exact hs)]
   exact string_long n s w hs
  ·exact string_short n s w (by omega)
 ·exact string_other k n s w hk
theorem check_any (k n:Int) (s:ByteArray) (w:World) :
  Calls Tryz.prog 117 #[.agg #[.int .i64 k,.int .i64 n,.string s]] w fun e w' => e=.returned (.int .i64 (valE k n s.data.toList))/\Below w.heap.size w w':=by
 obtain ⟨q,hq⟩:∃ q:Int,numE k n=q:=⟨_,rfl⟩
 obtain ⟨r,hr⟩:∃ r:Int,strE k s.data.toList=r:=⟨_,rfl⟩
 have hc:∀ W:World,Calls Tryz.prog 139 #[.agg #[.int .i64 k,.int .i64 n,.string s]] W fun e w' => e=.returned (.int .i64 q)/\Below W.heap.size W w':=fun W => by rw [← hq]; exact number_any k n s W
 have hd:∀ W:World,Calls Tryz.prog 140 #[.agg #[.int .i64 k,.int .i64 n,.string s]] W fun e w' => e=.returned (.int .i64 r)/\Below W.heap.size W w':=fun W => by rw [← hr]; exact string_any k n s W
 have HC:=Lib.hid hc
 have HD:=Lib.hid hd
 by_cases h0:q=0
 ·have e:valE k n s.data.toList=r:=by unfold valE; rw [hq,h0,if_pos rfl,hr]
  rw [e]
  subst h0
  clear hc hd hq hr e
  go_enter Tryz.func117,Tryz.ntmps117
  go_wp2_with fail
  refine (HC.out _).mono ?_; rintro e w1 ⟨rfl,hb1⟩
  have hz:=hb1.size
  have hc1:=hb1.cell (p:=⟨w.heap.size,0,none⟩) (by simp)
  have hc2:=hb1.cell (p:=⟨w.heap.size,1,none⟩) (by simp)
  have hc3:=hb1.cell (p:=⟨w.heap.size,2,none⟩) (by simp)
  go_wp2_with fail
  refine (HD.out _).mono ?_; rintro e w2 ⟨rfl,hb2⟩
  go_wp2_with fail
  go_ret
  exact ⟨rfl,((Below.refl _ _).alloc (Nat.le_refl _) _).trans ((hb1.trans (hb2.mono hb1.size)).mono (by simp))⟩
 ·have e:valE k n s.data.toList=q:=by unfold valE; rw [hq,if_neg h0]
  rw [e]
  have hq0:(q != 0)=true:=bne_iff_ne.2 h0
  clear hc hd hq hr e h0
  go_enter Tryz.func117,Tryz.ntmps117
  go_wp2_with fail
  refine (HC.out _).mono ?_; rintro e w1 ⟨rfl,hb1⟩
  go_wp2_with fail
  go_ret
  exact ⟨rfl,((Below.refl _ _).alloc (Nat.le_refl _) _).trans (hb1.mono (by simp))⟩
theorem known_any (k n:Int) (s:ByteArray) (w:World) :
  Calls Tryz.prog 138 #[.agg #[.int .i64 k,.int .i64 n,.string s]] w fun e w' => e=.returned (.bool (knownB k n s.data.toList))/\Below w.heap.size w w':=by
 obtain ⟨q,hq⟩:∃ q:Int,valE k n s.data.toList=q:=⟨_,rfl⟩
 obtain ⟨b,hb⟩:∃ b:Bool,isT k=b:=⟨_,rfl⟩
 have hc:∀ W:World,Calls Tryz.prog 117 #[.agg #[.int .i64 k,.int .i64 n,.string s]] W fun e w' => e=.returned (.int .i64 q)/\Below W.heap.size W w':=fun W => by rw [← hq]; exact check_any k n s W
 have hd:∀ W:World,Calls Tryz.prog 128 #[.int .i64 k] W fun e w' => e=.returned (.bool b)/\W=w':=fun W => by rw [← hb]; exact isType_any k W
 have HC:=Lib.hid hc
 have HD:=Lib.hid hd
 have hkn:knownB k n s.data.toList=(b && decide (q=0)):=by unfold knownB; rw [hb,hq]
 rw [hkn]
 clear hc hd hq hb hkn
 cases b
 ·go_enter Tryz.func138,Tryz.ntmps138
  go_wp2_with fail
  refine (HD.out _).mono ?_; rintro e w1 ⟨rfl,rfl⟩
  go_wp2_with fail
  go_ret
  exact ⟨rfl,(Below.refl _ _).alloc (Nat.le_refl _) _⟩
 ·by_cases h0:q=0
  ·subst h0
   go_enter Tryz.func138,Tryz.ntmps138
   go_wp2_with fail
   refine (HD.out _).mono ?_; rintro e w1 ⟨rfl,rfl⟩
   go_wp2_with fail
   refine (HC.out _).mono ?_; rintro e w2 ⟨rfl,hb1⟩
   go_wp2_with fail
   go_ret
   exact ⟨rfl,((Below.refl _ _).alloc (Nat.le_refl _) _).trans (hb1.mono (by simp))⟩
  ·have hq0:(q == 0)=false:=beq_eq_false_iff_ne.2 h0
   have hq1:decide (q=0)=false:=decide_eq_false h0
   rw [hq1]
   clear hq1 h0
   go_enter Tryz.func138,Tryz.ntmps138
   go_wp2_with fail
   refine (HD.out _).mono ?_; rintro e w1 ⟨rfl,rfl⟩
   go_wp2_with fail
   refine (HC.out _).mono ?_; rintro e w2 ⟨rfl,hb1⟩
   go_wp2_with fail
   go_ret
   exact ⟨rfl,((Below.refl _ _).alloc (Nat.le_refl _) _).trans (hb1.mono (by simp))⟩
theorem zero_in (k:Int) (w:World) (hk:isT k=true) :
  Calls Tryz.prog 103 #[.int .i64 k] w fun e w' => e=.returned (.tuple #[.agg #[.int .i64 k,.int .i64 0,.string ⟨#[]⟩],.int .i64 0])/\Below w.heap.size w w':=by
 have hd:∀ W:World,Calls Tryz.prog 128 #[.int .i64 k] W fun e w' => e=.returned (.bool true)/\W=w':=fun W => by rw [← hk]; exact isType_any k W
 have HD:=Lib.hid hd
 clear hd hk
 go_enter Tryz.func103,Tryz.ntmps103
 go_wp2_with fail
 refine (HD.out _).mono ?_; rintro e w1 ⟨rfl,rfl⟩
 go_wp2_with fail
 refine bodyPost_ret (v:=.tuple #[.agg #[.int .i64 k,.int .i64 0,.string ⟨#[]⟩],.int .i64 0]) (by simp [results,Tryz.results103,go_sem]) rfl ⟨rfl,(Below.refl _ _).alloc (Nat.le_refl _) _⟩
theorem zero_out (k:Int) (w:World) (hk:isT k=false) :
  Calls Tryz.prog 103 #[.int .i64 k] w fun e w' => e=.returned (.tuple #[.agg #[.int .i64 0,.int .i64 0,.string ⟨#[]⟩],.int .i64 2])/\Below w.heap.size w w':=by
 have hd:∀ W:World,Calls Tryz.prog 128 #[.int .i64 k] W fun e w' => e=.returned (.bool false)/\W=w':=fun W => by rw [← hk]; exact isType_any k W
 have HD:=Lib.hid hd
 clear hd hk
 go_enter Tryz.func103,Tryz.ntmps103
 go_wp2_with fail
 refine (HD.out _).mono ?_; rintro e w1 ⟨rfl,rfl⟩
 go_wp2_with fail
 refine bodyPost_ret (v:=.tuple #[.agg #[.int .i64 0,.int .i64 0,.string ⟨#[]⟩],.int .i64 2]) (by simp [results,Tryz.results103,go_sem]) rfl ⟨rfl,(Below.refl _ _).alloc (Nat.le_refl _) _⟩
end Val
namespace ValRef
open Go.RowKit
open NumM ValM Kit
set_option linter.unusedVariables false
end ValRef
namespace FldP
open Go.RowKit
open ValM LexM NumM ExM Kit ExL RawV Within RawL GenL
set_option linter.unusedVariables false
def atF:List GenL.Fd->ByteArray->Nat
 | [],_ => 0
 | f :: l,s => if f.nm=s then 0 else atF l s + 1
theorem atF_eq:∀ (fs:List GenL.Fd) (s:ByteArray) (k:Nat) (hk:k < fs.length),(∀ j (hj:j < fs.length),j < k->fs[j].nm ≠ s)->fs[k].nm=s->atF fs s=k
 | f :: l,s,0,hk,h,he => by unfold atF; rw [if_pos (show f.nm=s from he)]
 | f :: l,s,k + 1,hk,h,he => by
  unfold atF
  rw [if_neg (show ¬ f.nm=s from h 0 (by simp) (by omega)),atF_eq l s k (by simpa using hk) (fun j hj hjk => h (j + 1) (by simpa using hj) (by omega)) he]
theorem atF_none {fs:List GenL.Fd} {s:ByteArray} (h:∀ j (hj:j < fs.length),fs[j].nm ≠ s):atF fs s=fs.length:=by
 induction fs with
 | nil => rfl
 | cons f l ih =>
  unfold atF
  rw [if_neg (show ¬ f.nm=s from h 0 (by simp)),ih fun j hj => h (j + 1) (by simpa using hj)]; rfl
theorem atF_at {fs:List GenL.Fd} {s:ByteArray} (h:atF fs s < fs.length):fs[atF fs s].nm=s/\∀ j (hj:j < fs.length),j < atF fs s->fs[j].nm ≠ s:=by
 by_cases hex:∃ j,∃ hj:j < fs.length,fs[j].nm=s
 ·obtain ⟨k,hk,hmin⟩:∃ k,(∃ hk:k < fs.length,fs[k].nm=s)/\∀ j,j < k->¬ ∃ hj:j < fs.length,fs[j].nm=s:=by
   obtain ⟨j,hj⟩:=hex
   exact Nat.strongRecOn (motive:=fun j => (∃ hj:j < fs.length,fs[j].nm=s)->∃ k,(∃ hk:k < fs.length,fs[k].nm=s)/\∀ j,j < k->¬ ∃ hj:j < fs.length,fs[j].nm=s) j (fun m ih hm => by
    by_cases h:∃ i,i < m/\∃ hi:i < fs.length,fs[i].nm=s
    ·obtain ⟨i,hi,hh⟩:=h
     exact ih i hi hh
    ·exact ⟨m,hm,fun j hj hh => h ⟨j,hj,hh⟩⟩) hj
  obtain ⟨hk,he⟩:=hk
  have e:=atF_eq fs s k hk (fun j hj hjk hh => hmin j hjk ⟨hj,hh⟩) he
  refine ⟨?_,fun j hj hjk hh => hmin j (by omega) ⟨hj,hh⟩⟩
  simp only [e]; exact he
 ·have:=atF_none (fs:=fs) (s:=s) fun j hj hh => hex ⟨j,hj,hh⟩
  omega
theorem atF_take {fs:List GenL.Fd} {s:ByteArray} {k:Nat} (hk:k<=fs.length):atF (fs.take k) s < k ↔ atF fs s < k:=by
 have hl:(fs.take k).length=k:=by simp; omega
 constructor
 ·intro h
  obtain ⟨h1,h2⟩:=atF_at (fs:=fs.take k) (s:=s) (by omega)
  have e:=atF_eq fs s (atF (fs.take k) s) (by omega) (fun j hj hjk => by have:=h2 j (by omega) hjk; simpa using this) (by simpa using h1)
  omega
 ·intro h
  obtain ⟨h1,h2⟩:=atF_at (fs:=fs) (s:=s) (by omega)
  have e:=atF_eq (fs.take k) s (atF fs s) (by omega) (fun j hj hjk => by have:=h2 j (by omega) hjk; simpa using this) (by simpa using h1)
  omega
theorem Flds.take {w:World} {A:Option Addr} {fs:List GenL.Fd} (h:Flds w A fs) (k:Nat):Flds w A (fs.take k):=fun i hi => by
 obtain ⟨a,e,hf⟩:=h i (by simp at hi; omega)
 exact ⟨a,e,by simpa using hf⟩
theorem eq_t {a b:ByteArray} (h:a=b):(a.toList == b.toList)=true:=by rw [h]; simp
theorem eq_f {a b:ByteArray} (h:¬ a=b):(a.toList == b.toList)=false:=beq_eq_false_iff_ne.2 fun e => h (by
 rw [ByteArray.toList_eq,ByteArray.toList_eq] at e
 exact ByteArray.ext (Array.ext' e))
set_option maxHeartbeats 1000000 in
theorem find_any (s:ByteArray) (fs:List GenL.Fd) (FA:Option Addr) (fc:Nat) (w:World) (hf:Flds w FA fs) (hm:fs.length<=9223372036854775807) :
  Calls Tryz.prog 69 #[.slice FA fs.length fc,.string s] w fun e w' => e=.returned (.tuple #[.int .i64 (if atF fs s < fs.length then (atF fs s:Int) else 0),.int .i64 (if atF fs s < fs.length then 0 else 5)])/\w=w':=by
 obtain ⟨R,hR⟩:∃ R:Int × Int,((if atF fs s < fs.length then (atF fs s:Int) else 0),(if atF fs s < fs.length then (0:Int) else 5))=R:=⟨_,rfl⟩
 have hgood:∀ k (hk:k < fs.length),(∀ j (hj:j < fs.length),j < k->fs[j].nm ≠ s)->fs[k].nm=s->R=((k:Int),0):=fun k hk h he => by
  rw [← hR,atF_eq fs s k hk h he,if_pos hk,if_pos hk]
 have hbad:(∀ j (hj:j < fs.length),fs[j].nm ≠ s)->R=(0,5):=fun h => by
  rw [← hR,atF_none h,if_neg (Nat.lt_irrefl _),if_neg (Nat.lt_irrefl _)]
 rw [show (if atF fs s < fs.length then (atF fs s:Int) else 0)=R.1 from congrArg Prod.fst hR,show (if atF fs s < fs.length then (0:Int) else 5)=R.2 from congrArg Prod.snd hR]
 have HG:=Lib.hid hgood
 have HB:=Lib.hid hbad
 have HF:=Lib.hid hf
 clear hgood hbad hR hf
 go_enter Tryz.func69,Tryz.ntmps69
 go_wp2_with fail
 go_loopw [6,9] (fun _ i wr => ∃ (k:Nat),i=.int .i64 k/\k<=fs.length/\(∀ j (hj:j < fs.length),j < k->fs[j].nm ≠ s)/\wr=w) (fun _ i _ => fs.length - (intOf i).toNat)
 case atStart => exact ⟨0,rfl,Nat.zero_le _,fun j hj hjk => absurd hjk (by omega),rfl⟩
 case round =>
  obtain ⟨k,rfl,hk,hall,rfl⟩:=hrel
  by_cases hlt:k < fs.length
  ·obtain ⟨a,rfl,h0,h1,h2,h3⟩:=HF.out k hlt
   have hg:=HG.out k hlt hall
   have hnext:fs[k].nm ≠ s->∀ j (hj:j < fs.length),j < k + 1->fs[j].nm ≠ s:=fun e j hj hjk => by
    rcases Nat.lt_or_ge j k with h | h
    ·exact hall j hj h
    ·obtain rfl:j=k:=by omega
     exact e
   obtain ⟨nm,hnm⟩:∃ a,fs[k].nm=a:=⟨_,rfl⟩
   rw [hnm] at hg hnext h0
   have HG2:=Lib.hid hg
   have HN:=Lib.hid hnext
   clear hg hnext hall hnm h2 h3 h1
   by_cases he:nm=s
   ·obtain rfl:=HG2.out he
    have t1:(nm.toList == s.toList)=true:=eq_t he
    go_wp2_with fail
    go_ret2
    exact ⟨rfl,rfl⟩
   ·have t1:(nm.toList == s.toList)=false:=eq_f he
    go_wp2_with fail
    go_roundw
    case rel => exact ⟨k + 1,by go_num,by omega,HN.out he,by first | rfl | trivial⟩
    case measure => simp [intOf]; omega
  ·obtain rfl:=HB.out fun j hj => hall j hj (by omega)
   clear hall
   go_wp2_with fail
   go_ret2
   exact ⟨rfl,rfl⟩
end FldP
end Go.Proofs.YtjhhmdmmllblhaaGreatDoor
