/- What is proved: the Go law lychwaykeep.WholeFixed returns true for all its arguments,and leaves them as they were. No condition. -/
import Derived.Test.YtonlkmkfcaadlaaGreatDoorRows
import Derived.Test.YtonlkmkfcaadlaaGreatDoorKw01
import Derived.Test.YtonlkmkfcaadlaaGreatDoorKw21
import Derived.Test.YtonlkmkfcaadlaaGreatDoorKw23
import Derived.WalkKit
import Derived.ProofKit
import Derived.OpenShut
import Derived.Deep.RegionHeld3
import Derived.Deep.DrawnRows
import Derived.Deep.DeepCutAuto
import Derived.Deep.QuietTactic
import Derived.BigQuiet
import Derived.WalkSpells
import Derived.WalkLawsBesides
import Derived.Lib.Hide
import Derived.Outline
import Derived.ShutString
import Derived.ChangeOld
import Derived.Below
import Derived.LaidMore
import Derived.SizedLaws
import Derived.Stop.Joined
import Derived.Stop.LaidErr
import Derived.Lib.LaidTab
import Derived.SevenTiedAt
import Derived.Lay
import Derived.LaidOnce
import Derived.Deep.DeepHandedRow
import Derived.Test.YtonlkmkfcaadlaaGreatDoorCards
import Derived.Test.YtonlkmkfcaadlaaGreatDoorTie
namespace Go.Proofs.YtonlkmkfcaadlaaGreatDoor.wholeFixed
open ValM LexM NumM ExM NmM StrM EvM EvP FoM Kit ExL ExP ExN RawV Within RawL RawN GenL TyM Ty EvF EvO EvR EvE FrmM Frm FrmT FrmO FldP FldC FcM PgM PgF ShE RkM RkD RkO RkT RkP RkS RkK TxR TxT TxK InpG FcF WhM WhQ WhU WhT WhA Wh1 Wh2 Wh3 Wh4 Wh5 Wh6 Wh7 Wh8 Wh9 Wh10 Wh11 SMp KMp
open Go.ChangeShapes Go.WideShapes Go.ChangeAt Go.RowKit
open Go.ChangeMaps (open_string shut_string)
theorem own:ownKnob Tryz.prog.godebug=none:=by kernel_rfl
theorem laidOut:laidOutB Tryz.prog=true:=by kernel_rfl
/-! ### The walk -/
set_option maxRecDepth 100000 in
set_option maxHeartbeats 16000000 in
theorem walk (A0:Option Addr) (n0:Nat) (c0:Nat) (A1:Option Addr) (n1:Nat) (c1:Nat)  (w:World) (hraw0:RawL.Raws w A0 n0 c0) (hraw1:RawL.Raws w A1 n1 c1) (ht:ExN.Tab w) :
  Calls Tryz.prog 3 #[.slice A0 n0 c0,.slice A1 n1 c1] w fun e w' => e=.returned (.bool true)/\Below w.heap.size w w':=by
 obtain ⟨rs,rfl,hrv⟩:=RawN.Raws.val n0 hraw0
 obtain ⟨qs,rfl,hqv⟩:=RawN.Raws.val n1 hraw1
 have hF:=form_any c0 A0 rs w hrv
 have HF:=Lib.hid hF
 have HQ:=Lib.hid hqv
 have HT:=Lib.hid ht
 clear hF hrv hraw0 hqv hraw1 ht
 go_enter Tryz.func3,Tryz.ntmps3
 go_wp2_with fail
 refine HF.out.mono ?_; rintro e v1 ⟨es,FA,fc,ps,PA,pc,rfl,hv,hpv,hfr,hpr,hb,hcap,hpcap,-⟩
 have hG:=gen_start qs hv hfr hpv hpr hcap hpcap (HT.out.below hb)
 obtain ⟨I,hI⟩:∃ I,(inpV qs (es.map FE.fd) (es.map FE.fd).length).1=I:=⟨_,rfl⟩
 rw [hI] at hG
 obtain ⟨W2,hW2⟩:∃ V,v1.alloc (ShF.frBox FA es.length fc PA ps.length pc)=V:=⟨_,rfl⟩
 obtain ⟨B2,hB2⟩:∃ B,v1.heap.size=B:=⟨_,rfl⟩
 have hb2:=b_new v1 (ShF.frBox FA es.length fc PA ps.length pc)
 have hcell:=ShF.fr_cells v1 FA es.length fc PA ps.length pc
 rw [hW2] at hb2 hcell
 rw [hB2] at hcell
 obtain ⟨k0,k1⟩:=hcell W2 (Below.refl _ _)
 have hinp:=hG.inp A1 c1 W2 hb2 (HQ.out.below (b_trans hb hb2))
 have HG:=Lib.hid hG
 have HInp:=Lib.hid hinp
 have HCell:=Lib.hid hcell
 have HW2:=Lib.hid hW2
 have HB2:=Lib.hid hB2
 have Hb02:=Lib.hid (b_trans hb hb2)
 have Hb12:=Lib.hid hb2
 have h10:=hG.n10
 have hi10:=hG.il
 clear hG hinp hcell hW2 hB2 hb2 hv hpv hfr hpr hb hcap hpcap hI
 unfold ShF.frBox at HW2
 go_upto_region 2 with fail
 rw [HW2.out,HB2.out]
 go_wp2_with fail
 refine HInp.out.mono ?_; rintro e v3 ⟨IA,ic,rfl,hfi,hb3⟩
 have hor:=keepOracle_any (ic:=ic) HG.out (b_trans Hb12.out hb3) hfi
 obtain ⟨k0,k1⟩:=HCell.out v3 hb3
 have HOr:=Lib.hid hor
 have HFi:=Lib.hid hfi
 have HB3:=Lib.hid hb3
 clear hor hfi hb3
 go_wp2_with fail
 refine HOr.out.mono ?_; rintro e v4 ⟨OA,oc,rfl,hfo,hb4,-⟩
 have hb24:=b_trans HB3.out hb4
 have hall:=allO (ic:=ic) (oc:=oc) HG.out es.length (b_trans Hb12.out hb24) (HFi.out.below hb4) hfo
 obtain ⟨OV,hOV⟩:∃ O,orcV ansV (I.map toO) (es.map toW) es.length=O:=⟨_,rfl⟩
 obtain ⟨vs,hvs⟩:∃ vs,allV (I.map toO) OV (es.map toW)=vs:=⟨_,rfl⟩
 have hone:=fun (V:World) hV hi ho KA kc hk i hil hil2 => oneFix (ic:=ic) (OA:=OA) (oc:=oc) (IA:=IA) (KA:=KA) (kc:=kc) HG.out es.length (vs:=vs) (by rw [hOV]; exact hvs) (V:=V) hV hi ho hk i hil hil2
 simp only [hOV] at hone
 rw [hOV] at hall hfo ⊢
 rw [hvs] at hall
 have hvl:vs.length=es.length:=by rw [← hvs]; exact (all_len _ _ _).trans (List.length_map _)
 unfold AllOut at hall
 rw [hvl] at hall
 have HAll:=Lib.hid hall
 have HOne:=Lib.hid hone
 have HVl:=Lib.hid hvl
 have HFo:=Lib.hid hfo
 have HFi4:=Lib.hid (HFi.out.below hb4)
 have HB4:=Lib.hid hb24
 obtain ⟨k0,k1⟩:=HCell.out v4 hb24
 clear hall hone hvl hfo hb4 hb24 hvs hOV HFi HOr
 go_wp2_with fail
 refine HAll.out.mono ?_; rintro e v5 ⟨g,rfl,hgl,hrow,hb5⟩
 have hb25:=b_trans HB4.out hb5
 have hkn:=known_any v5 (HT.out.below (b_trans Hb02.out hb25))
 obtain ⟨k0,k1⟩:=HCell.out v5 hb25
 have HKn:=Lib.hid hkn
 have HSt5:=Lib.hid (And.intro hrow (And.intro hb25 (And.intro (HFi4.out.below hb5) (HFo.out.below hb5))))
 clear hrow hb25 hb5 hkn hgl HFi4 HFo HB4
 go_wp2_with fail
 refine HKn.out.mono ?_; rintro e v6 ⟨rfl,hb6⟩
 have hb26:=b_trans HSt5.out.2.1 hb6
 obtain ⟨k0,k1⟩:=HCell.out v6 hb26
 have HSt:=Lib.hid (And.intro (HSt5.out.1.below hb6) (And.intro hb26 (And.intro (HSt5.out.2.2.1.below hb6) (HSt5.out.2.2.2.below hb6))))
 clear hb6 hb26 HSt5 HKn
 go_wp2_with fail
 go_loopw [11,12,52] (fun _ _ ii wr => ∃ k:Nat,ii=.int .i64 k/\k<=es.length/\Below v6.heap.size v6 wr) (fun _ _ ii _ => es.length - (intOf ii).toNat)
 case atStart => exact ⟨0,rfl,Nat.zero_le _,Below.refl _ _⟩
 case round =>
  obtain ⟨k,rfl,hk,hb⟩:=hrel
  obtain ⟨wa,rfl⟩:∃ V,V=wr:=⟨_,rfl⟩
  have hb2a:=b_trans HSt.out.2.1 hb
  obtain ⟨k0,k1⟩:=HCell.out wa hb2a
  by_cases hlt:k < es.length
  ·obtain ⟨ad,rfl,hat⟩:=(HG.out.wf.fin.fl.below (b_trans Hb12.out hb2a)) k (by rw [List.length_map]; exact hlt)
   rw [List.getElem_map] at hat
   have hkv:k < vs.length:=by rw [HVl.out]; exact hlt
   have hrow:=fun V (hV:Below wa.heap.size wa V) => ((HSt.out.1.below hb).below hV).at k hkv
   have hone:=fun V (hV:Below wa.heap.size wa V) KA kc hk => HOne.out V (b_trans Hb12.out (b_trans hb2a hV)) ((HSt.out.2.2.1.below hb).below hV) ((HSt.out.2.2.2.below hb).below hV) KA kc hk k hlt hkv
   have hfac:=fun V (hV:Below wa.heap.size wa V) => keepFacts_any (fc:=fc) (c:=es.length) (HG.out.wf.fin.fl.below (b_trans Hb12.out (b_trans hb2a hV))) (fun k hk => by
    have:=(HG.out.wf.fin.fx k (by rw [List.length_map]; exact hk)).1
    rw [List.getElem_map] at this
    exact this) (by omega) HVl.out ((HSt.out.1.below hb).below hV)
   obtain ⟨a,ha⟩:∃ a,vs[k]=a:=⟨_,rfl⟩
   obtain ⟨f,hf⟩:∃ f,es[k].fd=f:=⟨_,rfl⟩
   simp only [ha,hf] at hrow hone hat
   obtain ⟨ak,an,az⟩:=a
   unfold vlA at hone
   obtain ⟨q0,q1,q2,q3,q4,q5,q6,q7,q8⟩:=hat
   obtain ⟨W7,hW7⟩:∃ V,wa.alloc (ShF.fdBox f)=V:=⟨_,rfl⟩
   obtain ⟨B12,hB12⟩:∃ B,wa.heap.size=B:=⟨_,rfl⟩
   have hb7:=b_new wa (ShF.fdBox f)
   have hcf:=fd_cells9 wa f
   rw [hW7] at hb7 hcf
   rw [hB12] at hcf
   have hcl:∀ V,Below W7.heap.size W7 V->V.cell? ⟨B12,0,none⟩=some (.string f.nm)/\V.cell? ⟨B12,1,none⟩=some (.int .i64 f.kind)/\V.cell? ⟨B12,2,none⟩=some (.int .i64 f.ty)/\V.cell? ⟨B12,3,none⟩=some (.int .i64 f.d.op)/\V.cell? ⟨B12,4,none⟩=some (.int .i64 f.d.k)/\V.cell? ⟨B12,5,none⟩=some (.int .i64 f.d.n)/\V.cell? ⟨B12,6,none⟩=some (.string f.d.s)/\V.cell? ⟨B12,7,none⟩=some (.string f.d.nm)/\V.cell? ⟨B12,8,none⟩=some (.slice f.A f.n f.c)/\V.cell? ⟨B2,0,none⟩=some (.slice (some ad) es.length fc)/\V.cell? ⟨g,k * 3,none⟩=some (.int .i64 ak)/\V.cell? ⟨g,k * 3 + 1,none⟩=some (.int .i64 an)/\V.cell? ⟨g,k * 3 + 2,none⟩=some (.string az):=fun V hV => by
    obtain ⟨a0,a1,a2,a3,a4,a5,a6,a7,a8⟩:=hcf V hV
    exact ⟨a0,a1,a2,a3,a4,a5,a6,a7,a8,(HCell.out V (b_trans hb2a (b_trans hb7 hV))).1,hrow V (b_trans hb7 hV)⟩
   have hone7:=fun V (hV:Below W7.heap.size W7 V) KA kc hk => hone V (b_trans hb7 hV) KA kc hk
   have hfac7:=fun V (hV:Below W7.heap.size W7 V) => hfac V (b_trans hb7 hV)
   obtain ⟨y0,y1,y2,y3,y4,y5,y6,y7,y8,z0,r0,r1,r2⟩:=hcl W7 (Below.refl _ _)
   have HCl:=Lib.hid hcl
   have HOne7:=Lib.hid hone7
   have HFac7:=Lib.hid hfac7
   have HW7:=Lib.hid hW7
   have HB12:=Lib.hid hB12
   have Hb67:=Lib.hid (b_trans hb hb7)
   have hbl:=Below.refl W7.heap.size W7
   have tlt:(k:Int) < (es.length:Int):=by omega
   clear hcl hone hone7 hfac hfac7 hW7 hB12 hb hb2a hb7 hrow hcf ha hf hkv
   unfold ShF.fdBox at HW7
   go_upto_region 10 with fail
   rw [HW7.out,HB12.out]
   go_wp2_with fail
   go_region_held3 (fun V => V.cell? ⟨B12,0,none⟩=some (.string f.nm)/\V.cell? ⟨B12,1,none⟩=some (.int .i64 f.kind)/\V.cell? ⟨B12,2,none⟩=some (.int .i64 f.ty)/\V.cell? ⟨B12,3,none⟩=some (.int .i64 f.d.op)/\V.cell? ⟨B12,4,none⟩=some (.int .i64 f.d.k)/\V.cell? ⟨B12,5,none⟩=some (.int .i64 f.d.n)/\V.cell? ⟨B12,6,none⟩=some (.string f.d.s)/\V.cell? ⟨B12,7,none⟩=some (.string f.d.nm)/\V.cell? ⟨B12,8,none⟩=some (.slice f.A f.n f.c)/\V.cell? ⟨B2,0,none⟩=some (.slice (some ad) es.length fc)/\V.cell? ⟨g,k * 3,none⟩=some (.int .i64 ak)/\V.cell? ⟨g,k * 3 + 1,none⟩=some (.int .i64 an)/\V.cell? ⟨g,k * 3 + 2,none⟩=some (.string az)) (first | (with_reducible exact HCl.out _ hbl) | (with_reducible exact HCl.out _ (b_drew hbl)))
    (first | (go_at_call 18; (with_reducible refine (HFac7.out _ ?_).mono ?_); (first | exact hbl | exact b_drew hbl); rintro e wn ⟨KA,kc,rfl,hkf,hbn⟩; have hbl:Below W7.heap.size W7 wn:=(by first | exact TyO.b_step hbl hbn | exact TyO.b_step (b_drew hbl) hbn)) | (go_at_call 17; (with_reducible refine (HOne7.out _ ?_ _ _ ?_).mono ?_); (first | exact hbl | exact b_drew hbl); (first | exact hkf | exact hkf.below (b_drew (Below.refl _ _))); rintro e wk ⟨rfl,hbk⟩; have hbl:Below W7.heap.size W7 wk:=(by first | exact TyO.b_step hbl hbk | exact TyO.b_step (b_drew hbl) hbk)))
   all_goals
    have HBl:=Lib.hid (b_trans Hb67.out hbl)
    go_wp2_with fail
    go_roundw
    case rel => exact ⟨k + 1,by go_num,by omega,by first | exact HBl.out | exact b_drew HBl.out⟩
    case measure => simp [intOf]; omega
  ·have HN:=Lib.hid (b_trans Hb02.out hb2a)
   clear hb hb2a
   go_wp2_with fail
   go_ret
   exact ⟨rfl,HN.out⟩
end Go.Proofs.YtonlkmkfcaadlaaGreatDoor.wholeFixed
