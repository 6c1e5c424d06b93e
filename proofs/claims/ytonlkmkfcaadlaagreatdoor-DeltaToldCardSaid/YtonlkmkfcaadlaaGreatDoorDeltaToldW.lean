/- What is proved: the Go law lychwaykeep.DeltaTold returns true for all its arguments,and leaves them as they were. No condition. -/
import Derived.Test.YtonlkmkfcaadlaaGreatDoorRows
import Derived.Test.YtonlkmkfcaadlaaGreatDoorKx01
import Derived.WalkKit
import Derived.ProofKit
import Derived.OpenShut
import Derived.Deep.RegionHeld3
import Derived.Deep.DrawnRows
import Derived.Deep.DeepCutAuto
import Derived.Deep.QuietTactic
import Derived.BigQuiet
import Derived.WalkSpells
import Derived.WalkLawsBesides
import Derived.Lib.Hide
import Derived.Outline
import Derived.ShutString
import Derived.ChangeOld
import Derived.Below
import Derived.LaidMore
import Derived.SizedLaws
import Derived.Stop.Joined
import Derived.Stop.LaidErr
import Derived.Lib.LaidTab
import Derived.SevenTiedAt
import Derived.Lay
import Derived.LaidOnce
import Derived.Deep.DeepHandedRow
import Derived.Test.YtonlkmkfcaadlaaGreatDoorCards
import Derived.Test.YtonlkmkfcaadlaaGreatDoorTie
namespace Go.Proofs.YtonlkmkfcaadlaaGreatDoor.deltaTold
open ValM LexM NumM ExM NmM StrM EvM EvP FoM Kit ExL ExP ExN RawV Within RawL RawN GenL TyM Ty EvF EvO EvR EvE FrmM Frm FrmT FrmO FldP FldC FcM PgM PgF ShE RkM RkD RkO RkT RkP RkS RkK TxR TxT TxK InpG FcF WhM WhQ WhU WhT WhA Wh1 Wh2 Wh3 Wh4 Wh5 Wh6 Wh7 Wh8 Wh9 Wh10 Wh11 SMp KMp NmA VlS DfP Dt
open Go.ChangeShapes Go.WideShapes Go.ChangeAt Go.RowKit
open Go.ChangeMaps (open_string shut_string)
theorem own:ownKnob Tryz.prog.godebug=none:=by kernel_rfl
theorem laidOut:laidOutB Tryz.prog=true:=by kernel_rfl
/-! ### The walk -/
set_option maxRecDepth 100000 in
set_option maxHeartbeats 16000000 in
theorem walk (A0:Option Addr) (n0:Nat) (c0:Nat) (A1:Option Addr) (n1:Nat) (c1:Nat) (A2:Option Addr) (n2:Nat) (c2:Nat)  (w:World) (hraw0:RawL.Raws w A0 n0 c0) (hraw1:RawL.Raws w A1 n1 c1) (hraw2:RawL.Raws w A2 n2 c2) (ht:ExN.Tab w) :
  Calls Tryz.prog 10 #[.slice A0 n0 c0,.slice A1 n1 c1,.slice A2 n2 c2] w fun e w' => e=.returned (.bool true)/\Below w.heap.size w w':=by
 obtain ⟨rs,rfl,hrv⟩:=RawN.Raws.val n0 hraw0
 obtain ⟨qs,rfl,hqv⟩:=RawN.Raws.val n1 hraw1
 obtain ⟨us,rfl,huv⟩:=RawN.Raws.val n2 hraw2
 have hF:=form_any c0 A0 rs w hrv
 have HF:=Lib.hid hF
 have HQ:=Lib.hid hqv
 have HU:=Lib.hid huv
 have HT:=Lib.hid ht
 clear hF hrv hraw0 hqv hraw1 huv hraw2 ht
 go_enter Tryz.func10,Tryz.ntmps10
 go_wp2_with fail
 refine HF.out.mono ?_; rintro e v1 ⟨es,FA,fc,ps,PA,pc,rfl,hv,hpv,hfr,hpr,hb,hcap,hpcap,-⟩
 have hG:=gen_start qs hv hfr hpv hpr hcap hpcap (HT.out.below hb)
 have hG2:=gen_start us hv hfr hpv hpr hcap hpcap (HT.out.below hb)
 obtain ⟨I,hI⟩:∃ I,(inpV qs (es.map FE.fd) (es.map FE.fd).length).1=I:=⟨_,rfl⟩
 obtain ⟨J,hJ⟩:∃ I,(inpV us (es.map FE.fd) (es.map FE.fd).length).1=I:=⟨_,rfl⟩
 rw [hI] at hG
 rw [hJ] at hG2
 obtain ⟨W2,hW2⟩:∃ V,v1.alloc (ShF.frBox FA es.length fc PA ps.length pc)=V:=⟨_,rfl⟩
 obtain ⟨B2,hB2⟩:∃ B,v1.heap.size=B:=⟨_,rfl⟩
 have hb2:=b_new v1 (ShF.frBox FA es.length fc PA ps.length pc)
 have hcell:=ShF.fr_cells v1 FA es.length fc PA ps.length pc
 rw [hW2] at hb2 hcell
 rw [hB2] at hcell
 obtain ⟨k0,k1⟩:=hcell W2 (Below.refl _ _)
 obtain ⟨va,hva⟩:∃ vs,allV (I.map toO) [] (es.map toW)=vs:=⟨_,rfl⟩
 obtain ⟨vb,hvb⟩:∃ vs,allV (J.map toO) [] (es.map toW)=vs:=⟨_,rfl⟩
 have hla:va.length=es.length:=by rw [← hva]; exact allW_len _ _
 have hlb:vb.length=es.length:=by rw [← hvb]; exact allW_len _ _
 have hi1:=fun V (hV:Below W2.heap.size W2 V) => hG.inp A1 c1 V (b_trans hb2 hV) (HQ.out.below (b_trans hb (b_trans hb2 hV)))
 have hi2:=fun V (hV:Below W2.heap.size W2 V) => hG2.inp A2 c2 V (b_trans hb2 hV) (HU.out.below (b_trans hb (b_trans hb2 hV)))
 have ha1:∀ (V:World) (hV:Below W2.heap.size W2 V) (IA:Option Addr) (ic:Nat),FctIn I IA V->Calls Tryz.prog 15 #[.agg #[.slice FA es.length fc,.slice PA ps.length pc],.slice IA I.length ic,.slice none 0 0] V fun e w' => ∃ g,e=.returned (.tuple #[.slice (some ⟨g,0,none⟩) es.length es.length,.int .i64 0])/\V.heap.size<=g/\RowV w' g va/\Below V.heap.size V w':=fun V hV IA ic hfi => by
  have hall:=hG.all (ic:=ic) (oc:=0) (b_trans hb2 hV) hfi (FctIn.nil V) rfl
  rw [List.map_nil,hva] at hall
  unfold AllOut at hall
  rw [hla] at hall
  exact hall
 have ha2:∀ (V:World) (hV:Below W2.heap.size W2 V) (IA:Option Addr) (ic:Nat),FctIn J IA V->Calls Tryz.prog 15 #[.agg #[.slice FA es.length fc,.slice PA ps.length pc],.slice IA J.length ic,.slice none 0 0] V fun e w' => ∃ g,e=.returned (.tuple #[.slice (some ⟨g,0,none⟩) es.length es.length,.int .i64 0])/\V.heap.size<=g/\RowV w' g vb/\Below V.heap.size V w':=fun V hV IA ic hfi => by
  have hall:=hG2.all (ic:=ic) (oc:=0) (b_trans hb2 hV) hfi (FctIn.nil V) rfl
  rw [List.map_nil,hvb] at hall
  unfold AllOut at hall
  rw [hlb] at hall
  exact hall
 have h10:=hG.n10
 have hdf:=fun V (hV:Below W2.heap.size W2 V) a b (e1:a.length=es.length) (e2:b.length=es.length) g1 g2 (h1:RowV V g1 a) (h2:RowV V g2 b) => differ_form (fc:=fc) (hG.wf.fin.fl.below (b_trans hb2 hV)) h10 e1 e2 h1 h2
 have hfl:=fun V (hV:Below W2.heap.size W2 V) => hG.wf.fin.fl.below (b_trans hb2 hV)
 have htab:=fun V (hV:Below W2.heap.size W2 V) => HT.out.below (b_trans hb (b_trans hb2 hV))
 have hhas:=fun i hi h1 h2 => differ_tests (differ_has (a:=va) (b:=vb) hG.wf.wt.apart hla hlb i hi h1 h2)
 have hdl:=differ_len (es:=es) (a:=va) (b:=vb) h10
 obtain ⟨L,hL⟩:∃ L,diffL (es.map FE.fd) va vb=L:=⟨_,rfl⟩
 simp only [hL] at hhas
 rw [hL] at hdl
 have HI1:=Lib.hid hi1
 have HI2:=Lib.hid hi2
 have HA1:=Lib.hid ha1
 have HA2:=Lib.hid ha2
 have HDf:=Lib.hid hdf
 have HFl:=Lib.hid hfl
 have HTb:=Lib.hid htab
 have HHas:=Lib.hid hhas
 have HL:=Lib.hid hL
 have HDl:=Lib.hid hdl
 have HLa:=Lib.hid hla
 have HLb:=Lib.hid hlb
 have HCell:=Lib.hid hcell
 have HW2:=Lib.hid hW2
 have HB2:=Lib.hid hB2
 have Hb02:=Lib.hid (b_trans hb hb2)
 clear hG hG2 hi1 hi2 ha1 ha2 hdf hfl htab hhas hL hdl hla hlb hcell hW2 hB2 hb2 hb hv hpv hfr hpr hcap hpcap hI hJ hva hvb HF HQ HU HT
 unfold ShF.frBox at HW2
 go_upto_region 2 with fail
 rw [HW2.out,HB2.out]
 go_wp2_with fail
 have hbl:Below W2.heap.size W2 W2:=Below.refl _ _
 go_region_held3 (fun V => V.cell? ⟨B2,0,none⟩=some (.slice FA es.length fc)/\V.cell? ⟨B2,1,none⟩=some (.slice PA ps.length pc)) (first | (with_reducible exact HCell.out _ hbl) | (with_reducible exact HCell.out _ (b_drew hbl)))
  (first | (go_at_call 13; (with_reducible refine (HI1.out _ ?_).mono ?_); (first | exact hbl | exact b_drew hbl); rintro e wn ⟨IA,ic,rfl,hfi,hbn⟩; have hbl:Below W2.heap.size W2 wn:=(by first | exact TyO.b_step hbl hbn | exact TyO.b_step (b_drew hbl) hbn)) | (go_at_call 15; (with_reducible refine (HA1.out _ ?_ _ _ ?_).mono ?_); (first | exact hbl | exact b_drew hbl); (first | exact hfi | exact hfi.below (b_drew (Below.refl _ _))); rintro e wk ⟨g1,rfl,hg1,hrow1,hbk⟩; have hbl:Below W2.heap.size W2 wk:=(by first | exact TyO.b_step hbl hbk | exact TyO.b_step (b_drew hbl) hbk)))
 all_goals
  obtain ⟨k0,k1⟩:=HCell.out wk hbl
  have HSt1:=Lib.hid (And.intro hrow1 hbl)
  clear hrow1 hbl hg1 hbk hfi hbn
  go_wp2_with fail
  have hbl:=HSt1.out.2
  go_region_held3 (fun V => V.cell? ⟨B2,0,none⟩=some (.slice FA es.length fc)/\V.cell? ⟨B2,1,none⟩=some (.slice PA ps.length pc)) (first | (with_reducible exact HCell.out _ hbl) | (with_reducible exact HCell.out _ (b_drew hbl)))
   (first | (go_at_call 13; (with_reducible refine (HI2.out _ ?_).mono ?_); (first | exact hbl | exact b_drew hbl); rintro e wm ⟨JA,jc,rfl,hfj,hbm⟩; have hbw:Below wk.heap.size wk wm:=(by first | exact hbm | exact TyO.b_step (b_drew (Below.refl _ _)) hbm); have hbl:Below W2.heap.size W2 wm:=TyO.b_step HSt1.out.2 hbw) | (go_at_call 15; (with_reducible refine (HA2.out _ ?_ _ _ ?_).mono ?_); (first | exact hbl | exact b_drew hbl); (first | exact hfj | exact hfj.below (b_drew (Below.refl _ _))); rintro e wj ⟨g2,rfl,hg2,hrow2,hbj⟩; have hbw2:Below wk.heap.size wk wj:=(by first | exact TyO.b_step hbw hbj | exact TyO.b_step (b_drew hbw) hbj); have hbl:Below W2.heap.size W2 wj:=TyO.b_step HSt1.out.2 hbw2))
  all_goals
   obtain ⟨k0,k1⟩:=HCell.out wj hbl
   have hr1:=HSt1.out.1.below hbw2
   have hd:=HDf.out wj hbl va vb HLa.out HLb.out g1 g2 hr1 hrow2
   rw [HL.out] at hd
   have HD:=Lib.hid hd
   have HSt2:=Lib.hid (And.intro hr1 (And.intro hrow2 hbl))
   clear hd hr1 hrow2 hbl hbw hbw2 hbm hbj hfj hg2 HSt1
   go_wp2_with fail
   refine HD.out.mono ?_; rintro e w4 ⟨v4,rfl,hown4,hb4⟩
   obtain ⟨LA,lc,rfl,hsr⟩:=SRow.of_own hown4
   have hbl:=b_trans HSt2.out.2.2 hb4
   obtain ⟨k0,k1⟩:=HCell.out w4 hbl
   have hr1:=HSt2.out.1.below hb4
   have hd:=HDf.out w4 hbl va va HLa.out HLa.out g1 g1 hr1 hr1
   rw [differ_none] at hd
   have HD2:=Lib.hid hd
   have HSt4:=Lib.hid (And.intro hr1 (And.intro (HSt2.out.2.1.below hb4) (And.intro hbl hown4)))
   clear hd hr1 hbl hown4 hb4 hsr HSt2 HD
   go_wp2_with fail
   refine HD2.out.mono ?_; rintro e w5 ⟨v5,rfl,hown5,hb5⟩
   obtain ⟨LB,ld,rfl,hsr⟩:=SRow.of_own hown5
   have hbl:=b_trans HSt4.out.2.2.1 hb5
   obtain ⟨k0,k1⟩:=HCell.out w5 hbl
   have hkn:=known_any w5 (HTb.out w5 hbl)
   have HKn:=Lib.hid hkn
   have HSt5:=Lib.hid (And.intro (HSt4.out.1.below hb5) (And.intro (HSt4.out.2.1.below hb5) (And.intro hbl (own_below HSt4.out.2.2.2 hb5))))
   clear hkn hbl hown5 hb5 hsr HSt4 HD2
   simp only [List.length_nil]
   go_wp2_with fail
   refine HKn.out.mono ?_; rintro e w6 ⟨rfl,hb6⟩
   have hbl:=b_trans HSt5.out.2.2.1 hb6
   obtain ⟨k0,k1⟩:=HCell.out w6 hbl
   have HSt:=Lib.hid (And.intro (HSt5.out.1.below hb6) (And.intro (HSt5.out.2.1.below hb6) (And.intro hbl (own_below HSt5.out.2.2.2 hb6))))
   clear hbl hb6 HSt5 HKn
   go_wp2_with fail
   go_loopw [16,17,78] (fun _ _ ii wr => ∃ k:Nat,ii=.int .i64 k/\k<=es.length/\Below w6.heap.size w6 wr) (fun _ _ ii _ => es.length - (intOf ii).toNat)
   case atStart => exact ⟨0,rfl,Nat.zero_le _,Below.refl _ _⟩
   case round =>
    obtain ⟨k,rfl,hk,hb⟩:=hrel
    obtain ⟨wa,rfl⟩:∃ V,V=wr:=⟨_,rfl⟩
    have hb2a:=b_trans HSt.out.2.2.1 hb
    obtain ⟨k0,k1⟩:=HCell.out wa hb2a
    by_cases hlt:k < es.length
    ·obtain ⟨ad,rfl,hat⟩:=HFl.out wa hb2a k (by rw [List.length_map]; exact hlt)
     rw [List.getElem_map] at hat
     have hka:k < va.length:=by rw [HLa.out]; exact hlt
     have hkb:k < vb.length:=by rw [HLb.out]; exact hlt
     have hra:=fun V (hV:Below wa.heap.size wa V) => ((HSt.out.1.below hb).below hV).at k hka
     have hrb:=fun V (hV:Below wa.heap.size wa V) => ((HSt.out.2.1.below hb).below hV).at k hkb
     have hcs:=HHas.out k hlt hka hkb
     obtain ⟨a,ha⟩:∃ a,va[k]=a:=⟨_,rfl⟩
     obtain ⟨b,hbv⟩:∃ b,vb[k]=b:=⟨_,rfl⟩
     obtain ⟨f,hf⟩:∃ f,es[k].fd=f:=⟨_,rfl⟩
     simp only [ha] at hra
     simp only [hbv] at hrb
     rw [ha,hbv,hf] at hcs
     rw [hf] at hat
     obtain ⟨q0,q1,q2,q3,q4,q5,q6,q7,q8⟩:=hat
     obtain ⟨W7,hW7⟩:∃ V,wa.alloc (ShF.fdBox f)=V:=⟨_,rfl⟩
     obtain ⟨B17,hB17⟩:∃ B,wa.heap.size=B:=⟨_,rfl⟩
     have hb7:=b_new wa (ShF.fdBox f)
     have hcf:=fd_cells9 wa f
     rw [hW7] at hb7 hcf
     rw [hB17] at hcf
     have hown7:=own_below (own_below HSt.out.2.2.2 hb) hb7
     obtain ⟨ak,an,az⟩:=a
     obtain ⟨bk,bn,bz⟩:=b
     have hcl:∀ V,Below W7.heap.size W7 V->V.cell? ⟨B17,0,none⟩=some (.string f.nm)/\V.cell? ⟨g1,k * 3,none⟩=some (.int .i64 ak)/\V.cell? ⟨g1,k * 3 + 1,none⟩=some (.int .i64 an)/\V.cell? ⟨g1,k * 3 + 2,none⟩=some (.string az)/\V.cell? ⟨g2,k * 3,none⟩=some (.int .i64 bk)/\V.cell? ⟨g2,k * 3 + 1,none⟩=some (.int .i64 bn)/\V.cell? ⟨g2,k * 3 + 2,none⟩=some (.string bz):=fun V hV => by
      obtain ⟨r0,r1,r2⟩:=hra V (b_trans hb7 hV)
      exact ⟨(hcf V hV).1,r0,r1,r2,hrb V (b_trans hb7 hV)⟩
     have hcon:=fun V (hV:Below W7.heap.size W7 V) => RkF.contains_any L f.nm (.slice LA L.length lc) wj.heap.size V HDl.out (own_below hown7 hV)
     obtain ⟨y0,r0,r1,r2,s0,s1,s2⟩:=hcl W7 (Below.refl _ _)
     have HB:=Lib.hid (b_trans hb hb7)
     have HCl:=Lib.hid hcl
     have HW7:=Lib.hid hW7
     have HB17:=Lib.hid hB17
     have tlt:(k:Int) < (es.length:Int):=by omega
     have hbl:=Below.refl W7.heap.size W7
     unfold ShF.fdBox at HW7
     rcases hcs with ⟨t0,e⟩ | ⟨t0,hd⟩
     ·injection e with e1 e2 e3
      subst e1 e2 e3
      rw [t0] at hcon
      have HCon:=Lib.hid hcon
      clear hcon hcl hW7 hB17 hcf hown7 hb7 hb hra hrb ha hbv hf hka hkb t0 hb2a
      go_upto_region 11 with fail
      rw [HW7.out,HB17.out]
      go_quiet ((go_at_call 34; exact (HCon.out _ (by first | exact hbl | exact b_drewN hbl _)).mono fun _ _ h => ⟨h.1,_,h.2.symm⟩))
      go_wp2_with fail
      go_roundw
      case rel => exact ⟨k + 1,by go_num,by omega,b_drewN HB.out _⟩
      case measure => simp [intOf]; omega
     ·rw [t0] at hcon
      have HCon:=Lib.hid hcon
      clear hcon hcl hW7 hB17 hcf hown7 hb7 hb hra hrb ha hbv hf hka hkb t0 hb2a
      rcases hd with t1 | ⟨t1,t2⟩ | ⟨t1,t2,t3⟩
      all_goals
       go_upto_region 11 with fail
       rw [HW7.out,HB17.out]
       go_quiet ((go_at_call 34; exact (HCon.out _ (by first | exact hbl | exact b_drewN hbl _)).mono fun _ _ h => ⟨h.1,_,h.2.symm⟩))
       go_wp2_with fail
       go_roundw
       case rel => exact ⟨k + 1,by go_num,by omega,b_drewN HB.out _⟩
       case measure => simp [intOf]; omega
    ·have HN:=Lib.hid (b_trans Hb02.out hb2a)
     clear hb hb2a
     go_wp2_with fail
     go_ret
     exact ⟨rfl,HN.out⟩
end Go.Proofs.YtonlkmkfcaadlaaGreatDoor.deltaTold
