/- What is proved: the Go law lychwaykeep.WholeAnswered returns true for all its arguments,and leaves them as they were. No condition. -/
import Derived.Test.YtonlkmkfcaadlaaGreatDoorRows
import Derived.Test.YtonlkmkfcaadlaaGreatDoorKw01
import Derived.Test.YtonlkmkfcaadlaaGreatDoorKw21
import Derived.Test.YtonlkmkfcaadlaaGreatDoorKw23
import Derived.WalkKit
import Derived.ProofKit
import Derived.OpenShut
import Derived.Deep.RegionHeld3
import Derived.Deep.DrawnRows
import Derived.Deep.DeepCutAuto
import Derived.Deep.QuietTactic
import Derived.BigQuiet
import Derived.WalkSpells
import Derived.WalkLawsBesides
import Derived.Lib.Hide
import Derived.Outline
import Derived.ShutString
import Derived.ChangeOld
import Derived.Below
import Derived.LaidMore
import Derived.SizedLaws
import Derived.Stop.Joined
import Derived.Stop.LaidErr
import Derived.Lib.LaidTab
import Derived.SevenTiedAt
import Derived.Lay
import Derived.LaidOnce
import Derived.Deep.DeepHandedRow
import Derived.Test.YtonlkmkfcaadlaaGreatDoorCards
import Derived.Test.YtonlkmkfcaadlaaGreatDoorTie
namespace Go.Proofs.YtonlkmkfcaadlaaGreatDoor.wholeAnswered
open ValM LexM NumM ExM NmM StrM EvM EvP FoM Kit ExL ExP ExN RawV Within RawL RawN GenL TyM Ty EvF EvO EvR EvE FrmM Frm FrmT FrmO FldP FldC FcM PgM PgF ShE RkM RkD RkO RkT RkP RkS RkK TxR TxT TxK InpG FcF WhM WhQ WhU WhT WhA Wh1 Wh2 Wh3 Wh4 Wh5 Wh6 Wh7 Wh8 Wh9 Wh10 Wh11 Wh12 SMp KMp
open Go.ChangeShapes Go.WideShapes Go.ChangeAt Go.RowKit
open Go.ChangeMaps (open_string shut_string)
theorem own:ownKnob Tryz.prog.godebug=none:=by kernel_rfl
theorem laidOut:laidOutB Tryz.prog=true:=by kernel_rfl
/-! ### The walk -/
set_option maxRecDepth 100000 in
set_option maxHeartbeats 16000000 in
theorem walk (A0:Option Addr) (n0:Nat) (c0:Nat) (A1:Option Addr) (n1:Nat) (c1:Nat)  (w:World) (hraw0:RawL.Raws w A0 n0 c0) (hraw1:RawL.Raws w A1 n1 c1) (ht:ExN.Tab w) :
  Calls Tryz.prog 4 #[.slice A0 n0 c0,.slice A1 n1 c1] w fun e w' => e=.returned (.bool true)/\Below w.heap.size w w':=by
 obtain ⟨rs,rfl,hrv⟩:=RawN.Raws.val n0 hraw0
 obtain ⟨qs,rfl,hqv⟩:=RawN.Raws.val n1 hraw1
 have hF:=form_any c0 A0 rs w hrv
 have HF:=Lib.hid hF
 have HQ:=Lib.hid hqv
 have HT:=Lib.hid ht
 clear hF hrv hraw0 hqv hraw1 ht
 go_enter Tryz.func4,Tryz.ntmps4
 go_wp2_with fail
 refine HF.out.mono ?_; rintro e v1 ⟨es,FA,fc,ps,PA,pc,rfl,hv,hpv,hfr,hpr,hb,hcap,hpcap,-⟩
 have hG:=gen_start qs hv hfr hpv hpr hcap hpcap (HT.out.below hb)
 obtain ⟨I,hI⟩:∃ I,(inpV qs (es.map FE.fd) (es.map FE.fd).length).1=I:=⟨_,rfl⟩
 rw [hI] at hG
 obtain ⟨W2,hW2⟩:∃ V,v1.alloc (ShF.frBox FA es.length fc PA ps.length pc)=V:=⟨_,rfl⟩
 obtain ⟨B2,hB2⟩:∃ B,v1.heap.size=B:=⟨_,rfl⟩
 have hb2:=b_new v1 (ShF.frBox FA es.length fc PA ps.length pc)
 have hcell:=ShF.fr_cells v1 FA es.length fc PA ps.length pc
 rw [hW2] at hb2 hcell
 rw [hB2] at hcell
 obtain ⟨k0,k1⟩:=hcell W2 (Below.refl _ _)
 have hinp:=hG.inp A1 c1 W2 hb2 (HQ.out.below (b_trans hb hb2))
 have HG:=Lib.hid hG
 have HInp:=Lib.hid hinp
 have HCell:=Lib.hid hcell
 have HW2:=Lib.hid hW2
 have HB2:=Lib.hid hB2
 have Hb02:=Lib.hid (b_trans hb hb2)
 have Hb12:=Lib.hid hb2
 have h10:=hG.n10
 have hi10:=hG.il
 clear hG hinp hcell hW2 hB2 hb2 hv hpv hfr hpr hb hcap hpcap hI
 unfold ShF.frBox at HW2
 go_upto_region 2 with fail
 rw [HW2.out,HB2.out]
 go_wp2_with fail
 refine HInp.out.mono ?_; rintro e v3 ⟨IA,ic,rfl,hfi,hb3⟩
 have hor:=keepOracle_any (ic:=ic) HG.out (b_trans Hb12.out hb3) hfi
 obtain ⟨k0,k1⟩:=HCell.out v3 hb3
 have HOr:=Lib.hid hor
 have HFi:=Lib.hid hfi
 have HB3:=Lib.hid hb3
 clear hor hfi hb3
 go_wp2_with fail
 refine HOr.out.mono ?_; rintro e v4 ⟨OA,oc,rfl,hfo,hb4,-⟩
 have hb24:=b_trans HB3.out hb4
 have hall:=allO (ic:=ic) (oc:=oc) HG.out es.length (b_trans Hb12.out hb24) (HFi.out.below hb4) hfo
 have hnp:=no_pend HG.out
 obtain ⟨OV,hOV⟩:∃ O,orcV ansV (I.map toO) (es.map toW) es.length=O:=⟨_,rfl⟩
 obtain ⟨vs,hvs⟩:∃ vs,allV (I.map toO) OV (es.map toW)=vs:=⟨_,rfl⟩
 rw [hOV] at hall hnp ⊢
 rw [hvs] at hall hnp
 have hvl:vs.length=es.length:=by rw [← hvs]; exact (all_len _ _ _).trans (List.length_map _)
 unfold AllOut at hall
 rw [hvl] at hall
 have HAll:=Lib.hid hall
 have HNp:=Lib.hid hnp
 have HVl:=Lib.hid hvl
 have HB4:=Lib.hid hb24
 obtain ⟨k0,k1⟩:=HCell.out v4 hb24
 clear hall hnp hvl hfo hb4 hb24 hvs hOV HFi HOr
 go_wp2_with fail
 refine HAll.out.mono ?_; rintro e v5 ⟨g,rfl,hgl,hrow,hb5⟩
 have hb25:=b_trans HB4.out hb5
 have hkn:=known_any v5 (HT.out.below (b_trans Hb02.out hb25))
 have HKn:=Lib.hid hkn
 have HSt5:=Lib.hid (And.intro hrow hb25)
 clear hrow hb25 hb5 hkn hgl HB4
 go_wp2_with fail
 refine HKn.out.mono ?_; rintro e v6 ⟨rfl,hb6⟩
 have hac:=acontains_any vs g es.length es.length v6 (HSt5.out.1.below hb6) HVl.out (by omega)
 rw [HNp.out] at hac
 have HAc:=Lib.hid hac
 have HSt:=Lib.hid (b_trans HSt5.out.2 hb6)
 clear hb6 hac HSt5 HKn
 go_wp2_with fail
 refine HAc.out.mono ?_; rintro e v7 ⟨rfl,hb7⟩
 have HN:=Lib.hid (b_trans Hb02.out (b_trans HSt.out hb7))
 clear hb7
 go_wp2_with fail
 go_ret
 exact ⟨rfl,HN.out⟩
end Go.Proofs.YtonlkmkfcaadlaaGreatDoor.wholeAnswered
