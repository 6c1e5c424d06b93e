/- What is proved: the Go law lychwaykeep.WholeGrows returns true for all its arguments,and leaves them as they were. No condition. -/
import Derived.Test.YtonlkmkfcaadlaaGreatDoorRows
import Derived.Test.YtonlkmkfcaadlaaGreatDoorKw01
import Derived.Test.YtonlkmkfcaadlaaGreatDoorKw21
import Derived.Test.YtonlkmkfcaadlaaGreatDoorKw23
import Derived.WalkKit
import Derived.ProofKit
import Derived.OpenShut
import Derived.Deep.RegionHeld3
import Derived.Deep.DrawnRows
import Derived.Deep.DeepCutAuto
import Derived.Deep.QuietTactic
import Derived.BigQuiet
import Derived.WalkSpells
import Derived.WalkLawsBesides
import Derived.Lib.Hide
import Derived.Outline
import Derived.ShutString
import Derived.ChangeOld
import Derived.Below
import Derived.LaidMore
import Derived.SizedLaws
import Derived.Stop.Joined
import Derived.Stop.LaidErr
import Derived.Lib.LaidTab
import Derived.SevenTiedAt
import Derived.Lay
import Derived.LaidOnce
import Derived.Deep.DeepHandedRow
import Derived.Test.YtonlkmkfcaadlaaGreatDoorCards
import Derived.Test.YtonlkmkfcaadlaaGreatDoorTie
namespace Go.Proofs.YtonlkmkfcaadlaaGreatDoor.wholeGrows
open ValM LexM NumM ExM NmM StrM EvM EvP FoM Kit ExL ExP ExN RawV Within RawL RawN GenL TyM Ty EvF EvO EvR EvE FrmM Frm FrmT FrmO FldP FldC FcM PgM PgF ShE RkM RkD RkO RkT RkP RkS RkK TxR TxT TxK InpG FcF WhM WhQ WhU WhT WhA Wh1 Wh2 Wh3 Wh4 Wh5 Wh6 Wh7 Wh8 Wh9 Wh10 Wh11 Wh13 SMp KMp
open Go.ChangeShapes Go.WideShapes Go.ChangeAt Go.RowKit
open Go.ChangeMaps (open_string shut_string)
theorem own:ownKnob Tryz.prog.godebug=none:=by kernel_rfl
theorem laidOut:laidOutB Tryz.prog=true:=by kernel_rfl
/-! ### The walk -/
set_option maxRecDepth 100000 in
set_option maxHeartbeats 16000000 in
theorem walk (A0:Option Addr) (n0:Nat) (c0:Nat) (A1:Option Addr) (n1:Nat) (c1:Nat) (a2:Int) (w2:(Lit.int .i64 a2).wf=true) (w:World) (hraw0:RawL.Raws w A0 n0 c0) (hraw1:RawL.Raws w A1 n1 c1) (ht:ExN.Tab w) :
  Calls Tryz.prog 6 #[.slice A0 n0 c0,.slice A1 n1 c1,.int .i64 a2] w fun e w' => e=.returned (.bool true)/\Below w.heap.size w w':=by
 obtain ⟨rs,rfl,hrv⟩:=RawN.Raws.val n0 hraw0
 obtain ⟨qs,rfl,hqv⟩:=RawN.Raws.val n1 hraw1
 have hF:=form_any c0 A0 rs w hrv
 have HF:=Lib.hid hF
 have HQ:=Lib.hid hqv
 have HT:=Lib.hid ht
 clear hF hrv hraw0 hqv hraw1 ht
 go_enter Tryz.func6,Tryz.ntmps6
 go_wp2_with fail
 refine HF.out.mono ?_; rintro e v1 ⟨es,FA,fc,ps,PA,pc,rfl,hv,hpv,hfr,hpr,hb,hcap,hpcap,-⟩
 have hG:=gen_start qs hv hfr hpv hpr hcap hpcap (HT.out.below hb)
 obtain ⟨I,hI⟩:∃ I,(inpV qs (es.map FE.fd) (es.map FE.fd).length).1=I:=⟨_,rfl⟩
 rw [hI] at hG
 obtain ⟨W2,hW2⟩:∃ V,v1.alloc (ShF.frBox FA es.length fc PA ps.length pc)=V:=⟨_,rfl⟩
 obtain ⟨B2,hB2⟩:∃ B,v1.heap.size=B:=⟨_,rfl⟩
 have hb2:=b_new v1 (ShF.frBox FA es.length fc PA ps.length pc)
 have hcell:=ShF.fr_cells v1 FA es.length fc PA ps.length pc
 rw [hW2] at hb2 hcell
 rw [hB2] at hcell
 obtain ⟨k0,k1⟩:=hcell W2 (Below.refl _ _)
 have hinp:=hG.inp A1 c1 W2 hb2 (HQ.out.below (b_trans hb hb2))
 have HG:=Lib.hid hG
 have HInp:=Lib.hid hinp
 have HCell:=Lib.hid hcell
 have HW2:=Lib.hid hW2
 have HB2:=Lib.hid hB2
 have Hb02:=Lib.hid (b_trans hb hb2)
 have Hb12:=Lib.hid hb2
 have h10:=hG.n10
 have hi10:=hG.il
 clear hG hinp hcell hW2 hB2 hb2 hv hpv hfr hpr hb hcap hpcap hI
 unfold ShF.frBox at HW2
 go_upto_region 2 with fail
 rw [HW2.out,HB2.out]
 go_wp2_with fail
 refine HInp.out.mono ?_; rintro e v3 ⟨IA,ic,rfl,hfi,hb3⟩
 have hor:=keepOracle_any (ic:=ic) HG.out (b_trans Hb12.out hb3) hfi
 obtain ⟨k0,k1⟩:=HCell.out v3 hb3
 have HOr:=Lib.hid hor
 have HFi:=Lib.hid hfi
 have HB3:=Lib.hid hb3
 clear hor hfi hb3
 go_wp2_with fail
 refine HOr.out.mono ?_; rintro e v4 ⟨OA,oc,rfl,hfo,hb4,hos⟩
 have hb24:=b_trans HB3.out hb4
 obtain ⟨OV,hOV⟩:∃ O,orcV ansV (I.map toO) (es.map toW) es.length=O:=⟨_,rfl⟩
 rw [hOV] at hos ⊢
 obtain ⟨m,hm,hml⟩:∃ m:Nat,pick a2 ((OV.length:Int) + 1)=(m:Int)/\m<=OV.length:=by
  have:=pick_bd a2 ((OV.length:Int) + 1) (by omega)
  exact ⟨(pick a2 ((OV.length:Int) + 1)).toNat,by omega,by omega⟩
 have hol:OV.length<=100:=by
  rw [← hOV]
  have h1:=orcV_len ansV (I.map toO) (es.map toW) es.length
  rw [List.length_map] at h1
  have h2:es.length * es.length<=10 * 10:=Nat.mul_le_mul h10 h10
  omega
 have hpk:∀ V,Calls Tryz.prog 21 #[.int .i64 a2,.int .i64 ((OV.length:Int) + 1)] V fun e w' => e=.returned (.int .i64 (m:Int))/\V=w':=fun V => by rw [← hm]; exact picked_any a2 _ V w2 (by omega) (by omega)
 have hall1:=fun V hV hi ho => allT (ic:=ic) (oc:=oc) (IA:=IA) (OA:=OA) HG.out es.length m (by rw [hOV]; exact hml) (V:=V) hV hi ho
 have hall2:=fun V hV hi ho => allO (ic:=ic) (oc:=oc) (IA:=IA) (OA:=OA) HG.out es.length (V:=V) hV hi ho
 obtain ⟨us,hus⟩:∃ us,allV (I.map toO) (OV.take m) (es.map toW)=us:=⟨_,rfl⟩
 obtain ⟨vs,hvs⟩:∃ vs,allV (I.map toO) OV (es.map toW)=vs:=⟨_,rfl⟩
 obtain ⟨hul,hvl,hgro⟩:=grows HG.out es.length m (us:=us) (vs:=vs) (by rw [hOV]; exact hus) (by rw [hOV]; exact hvs)
 simp only [hOV,hus] at hall1
 simp only [hOV,hvs] at hall2
 rw [hOV] at hfo
 unfold AllOut at hall1 hall2
 rw [hul] at hall1
 rw [hvl] at hall2
 have hwr:IntKind.i64.wrap ((OV.length:Int) + 1)=(OV.length:Int) + 1:=IntWalk.i64_in _ (by omega)
 have hmc:m<=oc:=by
  rcases hos with ⟨_,h1,_⟩ | ⟨_,_,h1,_⟩ <;> omega
 have hmi:(m:Int)<=(oc:Int):=by omega
 have HPk:=Lib.hid hpk
 have HAll1:=Lib.hid (fun V (hV:Below v4.heap.size v4 V) => hall1 V (b_trans Hb12.out (b_trans hb24 hV)) ((HFi.out.below hb4).below hV) (hfo.below hV))
 have HAll2:=Lib.hid (fun V (hV:Below v4.heap.size v4 V) => hall2 V (b_trans Hb12.out (b_trans hb24 hV)) ((HFi.out.below hb4).below hV) (hfo.below hV))
 have HC4:=Lib.hid (fun V (hV:Below v4.heap.size v4 V) => HCell.out V (b_trans hb24 hV))
 have HT4:=Lib.hid (fun V (hV:Below v4.heap.size v4 V) => HT.out.below (b_trans Hb02.out (b_trans hb24 hV)))
 have HN4:=Lib.hid (fun V (hV:Below v4.heap.size v4 V) => b_trans Hb02.out (b_trans hb24 hV))
 have HGro:=Lib.hid hgro
 have HUl:=Lib.hid hul
 have HVl:=Lib.hid hvl
 have HOl:=Lib.hid hol
 obtain ⟨k0,k1⟩:=HCell.out v4 hb24
 clear hall1 hall2 hgro hul hvl hfo hb4 hb24 hus hvs hOV HFi HOr hpk hm HInp
 have hbl:Below v4.heap.size v4 v4:=Below.refl _ _
 rcases hos with ⟨rfl,-,-⟩ | ⟨g0,rfl,-,-⟩
 all_goals
  go_wp2_with fail
  go_region_held3 (fun V => V.cell? ⟨B2,0,none⟩=some (.slice FA es.length fc)/\V.cell? ⟨B2,1,none⟩=some (.slice PA ps.length pc)) (first | (with_reducible exact HC4.out _ hbl) | (with_reducible exact HC4.out _ (b_drew hbl)))
   (first | (go_at_call 21; (with_reducible refine (HPk.out _).mono ?_); rintro e wn ⟨rfl,rfl⟩) | (go_at_call 15; (with_reducible refine (HAll1.out _ ?_).mono ?_); (first | exact hbl | exact b_drew hbl); rintro e v5 ⟨g1,rfl,hg1,hrow1,hb5⟩; have hbl:Below v4.heap.size v4 v5:=(by first | exact TyO.b_step hbl hb5 | exact TyO.b_step (b_drew hbl) hb5)))
  all_goals
   obtain ⟨k0,k1⟩:=HC4.out v5 hbl
   have HSt5:=Lib.hid (And.intro hrow1 hbl)
   have ha2:=HAll2.out v5 hbl
   have HA2:=Lib.hid ha2
   clear hb5 hg1 hrow1 hbl ha2
   go_wp2_with fail
   refine HA2.out.mono ?_; rintro e v6 ⟨g2,rfl,hg2,hrow2,hb6⟩
   have hbl:=b_trans HSt5.out.2 hb6
   have hkn:=known_any v6 (HT4.out v6 hbl)
   have HSt6:=Lib.hid (And.intro (HSt5.out.1.below hb6) (And.intro hrow2 hbl))
   have HKn:=Lib.hid hkn
   clear hb6 hg2 hrow2 hbl hkn HSt5 HA2
   go_wp2_with fail
   refine HKn.out.mono ?_; rintro e v7 ⟨rfl,hb7⟩
   have HSt:=Lib.hid (And.intro (HSt6.out.1.below hb7) (And.intro (HSt6.out.2.1.below hb7) (b_trans HSt6.out.2.2 hb7)))
   clear hb7 HSt6 HKn
   go_wp2_with fail
   go_loopw [15,70] (fun _ ii wr => ∃ k:Nat,ii=.int .i64 k/\k<=es.length/\Below v7.heap.size v7 wr) (fun _ ii _ => es.length - (intOf ii).toNat)
   case atStart => exact ⟨0,rfl,Nat.zero_le _,Below.refl _ _⟩
   case round =>
    obtain ⟨k,rfl,hk,hb⟩:=hrel
    obtain ⟨wa,rfl⟩:∃ V,V=wr:=⟨_,rfl⟩
    by_cases hlt:k < es.length
    ·have hku:k < us.length:=by rw [HUl.out]; exact hlt
     have hkv:k < vs.length:=by rw [HVl.out]; exact hlt
     obtain ⟨x0,x1,x2⟩:=(HSt.out.1.below hb).at k hku
     obtain ⟨y0,y1,y2⟩:=(HSt.out.2.1.below hb).at k hkv
     have hg:=gro_tests (HGro.out k hku hkv)
     obtain ⟨a,ha⟩:∃ a,us[k]=a:=⟨_,rfl⟩
     obtain ⟨b,hbv⟩:∃ b,vs[k]=b:=⟨_,rfl⟩
     rw [ha] at x0 x1 x2 hg
     rw [hbv] at y0 y1 y2 hg
     obtain ⟨ak,an,az⟩:=a
     obtain ⟨bk,bn,bz⟩:=b
     have tlt:(k:Int) < (es.length:Int):=by omega
     have HB:=Lib.hid hb
     clear hb ha hbv hku hkv
     have hcases:((ak != 4)=false) ∨ ((ak != 4)=true/\ak=bk/\an=bn/\az=bz) ∨ (ak=5/\bk=5/\(an == bn)=false) ∨ (ak=5/\bk=5/\an=bn/\(az.toList == bz.toList)=false):=by
      rcases hg with h | ⟨h,e⟩ | ⟨h,e1,e2⟩
      ·exact .inl h
      ·injection e with e1 e2 e3
       exact .inr (.inl ⟨h,e1,e2,e3⟩)
      ·have e1:ak=5:=e1
       have e2:bk=5:=e2
       by_cases c:an=bn
       ·by_cases d:az=bz
        ·exact .inr (.inl ⟨h,by rw [e1,e2],c,d⟩)
        ·exact .inr (.inr (.inr ⟨e1,e2,c,eq_f d⟩))
       ·exact .inr (.inr (.inl ⟨e1,e2,beq_eq_false_iff_ne.2 c⟩))
     clear hg
     rcases hcases with t1 | ⟨t1,rfl,rfl,rfl⟩ | ⟨rfl,rfl,t3⟩ | ⟨rfl,rfl,rfl,t4⟩
     all_goals
      go_upto_region 11 with fail
      go_quiet (fail)
      go_wp2_with fail
      go_roundw
      case rel => exact ⟨k + 1,by go_num,by omega,b_drewN HB.out _⟩
      case measure => simp [intOf]; omega
    ·have HN:=Lib.hid (HN4.out wa (b_trans HSt.out.2.2 hb))
     clear hb
     go_wp2_with fail
     go_ret
     exact ⟨rfl,HN.out⟩
end Go.Proofs.YtonlkmkfcaadlaaGreatDoor.wholeGrows
