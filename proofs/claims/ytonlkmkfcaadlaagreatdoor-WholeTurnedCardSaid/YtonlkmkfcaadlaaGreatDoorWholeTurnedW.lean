/- What is proved: the Go law lychwaykeep.WholeTurned returns true for all its arguments,and leaves them as they were. No condition. -/
import Derived.Test.YtonlkmkfcaadlaaGreatDoorRows
import Derived.Test.YtonlkmkfcaadlaaGreatDoorKy01
import Derived.WalkKit
import Derived.ProofKit
import Derived.OpenShut
import Derived.Deep.RegionHeld3
import Derived.Deep.DrawnRows
import Derived.Deep.DeepCutAuto
import Derived.Deep.QuietTactic
import Derived.BigQuiet
import Derived.WalkSpells
import Derived.WalkLawsBesides
import Derived.Lib.Hide
import Derived.Outline
import Derived.ShutString
import Derived.ChangeOld
import Derived.Below
import Derived.LaidMore
import Derived.SizedLaws
import Derived.Stop.Joined
import Derived.Stop.LaidErr
import Derived.Lib.LaidTab
import Derived.SevenTiedAt
import Derived.Lay
import Derived.LaidOnce
import Derived.Deep.DeepHandedRow
import Derived.Test.YtonlkmkfcaadlaaGreatDoorCards
import Derived.Test.YtonlkmkfcaadlaaGreatDoorTie
namespace Go.Proofs.YtonlkmkfcaadlaaGreatDoor.wholeTurned
open ValM LexM NumM ExM NmM StrM EvM EvP FoM Kit ExL ExP ExN RawV Within RawL RawN GenL TyM Ty EvF EvO EvR EvE FrmM Frm FrmT FrmO FldP FldC FcM PgM PgF ShE RkM RkD RkO RkT RkP RkS RkK TxR TxT TxK InpG FcF WhM WhQ WhU WhT WhA Wh1 Wh2 Wh3 Wh4 Wh5 Wh6 Wh7 Wh8 Wh9 Wh10 Wh11 Wh13 Wh14 SMp KMp FldU VlS Wh15 Wh16
open Go.ChangeShapes Go.WideShapes Go.ChangeAt Go.RowKit
open Go.ChangeMaps (open_string shut_string)
theorem own:ownKnob Tryz.prog.godebug=none:=by kernel_rfl
theorem laidOut:laidOutB Tryz.prog=true:=by kernel_rfl
/-! ### The walk -/
set_option maxRecDepth 100000 in
set_option maxHeartbeats 16000000 in
theorem walk (A0:Option Addr) (n0:Nat) (c0:Nat) (A1:Option Addr) (n1:Nat) (c1:Nat) (a2:Int) (w2:(Lit.int .i64 a2).wf=true) (w:World) (hraw0:RawL.Raws w A0 n0 c0) (hraw1:RawL.Raws w A1 n1 c1) (ht:ExN.Tab w) :
  Calls Tryz.prog 5 #[.slice A0 n0 c0,.slice A1 n1 c1,.int .i64 a2] w fun e w' => e=.returned (.bool true)/\Below w.heap.size w w':=by
 obtain ⟨rs,rfl,hrv⟩:=RawN.Raws.val n0 hraw0
 obtain ⟨qs,rfl,hqv⟩:=RawN.Raws.val n1 hraw1
 have hF:=form_any c0 A0 rs w hrv
 have HF:=Lib.hid hF
 have HQ:=Lib.hid hqv
 have HT:=Lib.hid ht
 clear hF hrv hraw0 hqv hraw1 ht
 go_enter Tryz.func5,Tryz.ntmps5
 go_wp2_with fail
 refine HF.out.mono ?_; rintro e v1 ⟨es,FA,fc,ps,PA,pc,rfl,hv,hpv,hfr,hpr,hb,hcap,hpcap,-⟩
 obtain ⟨gF,rfl,-⟩:=hfr 0 (by have:=(form_places hv).1; have:=(countV_bd rs).1; omega)
 have hfr':=hfr
 have hG:=gen_start qs hv hfr hpv hpr hcap hpcap (HT.out.below hb)
 have h10:=hG.n10
 have h1n:=hG.n1
 obtain ⟨k,hpk,hkl⟩:∃ k:Nat,pick a2 (es.length:Int)=(k:Int)/\k < es.length:=by
  have:=pick_bd a2 (es.length:Int) (by omega)
  exact ⟨(pick a2 (es.length:Int)).toNat,by omega,by omega⟩
 have hrf:=rot_facts hv hfr qs k hkl
 have hrot:=rot_start hv hfr hpv hpr hG k hkl
 obtain ⟨I,hI⟩:∃ I,(inpV qs (es.map FE.fd) (es.map FE.fd).length).1=I:=⟨_,rfl⟩
 rw [hI] at hG hrf
 obtain ⟨W2,hW2⟩:∃ V,v1.alloc (ShF.frBox (some ⟨gF,0,none⟩) es.length fc PA ps.length pc)=V:=⟨_,rfl⟩
 obtain ⟨B2,hB2⟩:∃ B,v1.heap.size=B:=⟨_,rfl⟩
 have hb2:=b_new v1 (ShF.frBox (some ⟨gF,0,none⟩) es.length fc PA ps.length pc)
 have hcell:=ShF.fr_cells v1 (some ⟨gF,0,none⟩) es.length fc PA ps.length pc
 rw [hW2] at hb2 hcell
 rw [hB2] at hcell
 obtain ⟨k0,k1⟩:=hcell W2 (Below.refl _ _)
 have hinp:=hG.inp A1 c1 W2 hb2 (HQ.out.below (b_trans hb hb2))
 have hs1:=slC_of hfr' k (es.drop k) (fun i hi => by rw [List.length_drop] at hi; exact ⟨by omega,List.getElem_drop⟩)
 have hs2:=slC_of hfr' 0 (es.take k) (fun i hi => by rw [List.length_take] at hi; exact ⟨by omega,by rw [List.getElem_take]; simp only [Nat.zero_add]⟩)
 have hl1:(es.drop k).length=es.length - k:=List.length_drop
 have hl2:(es.take k).length=k:=by rw [List.length_take]; omega
 have hcc:∀ V b,Two W2 (.slice (some ⟨gF,k * 9,none⟩) (es.length - k) (fc - k)) (.slice (some ⟨gF,0,none⟩) k fc) 23 V b->Calls Tryz.prog 22 #[.slice (some ⟨b,0,none⟩) 2 2] V fun e w' => ∃ g cap,e=.returned (.slice (some ⟨g,0,none⟩) es.length cap)/\Flds w' (some ⟨g,0,none⟩) ((es.drop k ++ es.take k).map FE.fd)/\(es.length<=cap/\cap<=maxLen)/\V.heap.size<=g/\g < w'.heap.size/\Below V.heap.size V w':=fun V b h2 => by
  obtain ⟨t1,t2⟩:=h2.cells
  have hbV:=b_trans hb2 h2.1
  refine (FldU.concat_any b ⟨gF,k * 9,none⟩ ⟨gF,0,none⟩ 2 (fc - k) fc (es.drop k) (es.take k) V (by rw [hl1]; exact t1) (by rw [hl2]; exact t2) (hs1.below hbV) ?_ (by omega) (by omega)).mono ?_
  ·have:=hs2.below hbV
   rwa [Nat.zero_mul] at this
  ·rintro e w' ⟨o,rfl,ho⟩
   have htl:=ownF_turn ho
   obtain ⟨g,cap,rfl,hown,hbo⟩:=ho
   obtain ⟨g',cap',e1,hfl',hcp⟩:=htl
   rw [List.length_map,rot_len es k hkl] at e1 hcp
   injection e1 with e1 e2 e3
   injection e1 with e1
   injection e1 with e1
   subst e1 e3
   rw [rot_len es k hkl] at hown
   have hlt:=hown.lt g rfl
   exact ⟨g,cap,by rw [rot_len es k hkl],hfl',hcp,hlt.1,hlt.2,hbo⟩
 have HG:=Lib.hid hG
 have HInp:=Lib.hid hinp
 have HCell:=Lib.hid hcell
 have HW2:=Lib.hid hW2
 have HB2:=Lib.hid hB2
 have Hb02:=Lib.hid (b_trans hb hb2)
 have Hb12:=Lib.hid hb2
 have HRot:=Lib.hid hrot
 have HRf:=Lib.hid hrf
 have HCC:=Lib.hid hcc
 have hpick:∀ V,Calls Tryz.prog 21 #[.int .i64 a2,.int .i64 es.length] V fun e w' => e=.returned (.int .i64 (k:Int))/\V=w':=fun V => by rw [← hpk]; exact picked_any a2 _ V w2 (by omega) (by omega)
 have HPk:=Lib.hid hpick
 have hi10:=hG.il
 have hcf:=hcap.1
 have HCp:=Lib.hid hcap
 clear hG hinp hcell hW2 hB2 hb2 hv hpv hfr hfr' hpr hb hcap hpcap hI hrot hrf hcc hs1 hs2 hl1 hl2 hpick hpk
 unfold ShF.frBox at HW2
 go_upto_region 2 with fail
 rw [HW2.out,HB2.out]
 go_wp2_with fail
 refine HInp.out.mono ?_; rintro e v3 ⟨IA,ic,rfl,hfi,hb3⟩
 have hor:=keepOracle_any (ic:=ic) HG.out (b_trans Hb12.out hb3) hfi
 obtain ⟨k0,k1⟩:=HCell.out v3 hb3
 have HOr:=Lib.hid hor
 have HFi:=Lib.hid hfi
 have HB3:=Lib.hid hb3
 clear hor hfi hb3
 go_wp2_with fail
 refine HOr.out.mono ?_; rintro e v4 ⟨OA,oc,rfl,hfo,hb4,-⟩
 have hb24:=b_trans HB3.out hb4
 have hall1:=fun V hV hi ho => allO (ic:=ic) (oc:=oc) (IA:=IA) (OA:=OA) HG.out es.length (V:=V) hV hi ho
 obtain ⟨OV,hOV⟩:∃ O,orcV ansV (I.map toO) (es.map toW) es.length=O:=⟨_,rfl⟩
 obtain ⟨vs,hvs⟩:∃ vs,allV (I.map toO) OV (es.map toW)=vs:=⟨_,rfl⟩
 have hall2:=fun V hV hi ho g c hfl hc => allRot (ic:=ic) (oc:=oc) (IA:=IA) (OA:=OA) HG.out hkl HRot.out HRf.out es.length (vs:=vs) (by rw [hOV]; exact hvs) (V:=V) hV hi ho (g:=g) (c:=c) hfl hc
 have hvl:vs.length=es.length:=by rw [← hvs]; exact (all_len _ _ _).trans (List.length_map _)
 simp only [hOV,hvs] at hall1
 simp only [hOV] at hall2
 rw [hOV] at hfo ⊢
 unfold AllOut at hall1
 rw [hvl] at hall1
 have HA1:=Lib.hid (fun V (hV:Below v4.heap.size v4 V) => hall1 V (b_trans Hb12.out (b_trans hb24 hV)) ((HFi.out.below hb4).below hV) (hfo.below hV))
 have HA2:=Lib.hid (fun V (hV:Below v4.heap.size v4 V) g c hfl hc => hall2 V (b_trans Hb12.out (b_trans hb24 hV)) ((HFi.out.below hb4).below hV) (hfo.below hV) g c hfl hc)
 have HCC4:=Lib.hid (fun V b (h:Two v4 (.slice (some ⟨gF,k * 9,none⟩) (es.length - k) (fc - k)) (.slice (some ⟨gF,0,none⟩) k fc) 23 V b) => HCC.out V b ⟨b_trans hb24 h.1,h.2⟩)
 have HC4:=Lib.hid (fun V (hV:Below v4.heap.size v4 V) => HCell.out V (b_trans hb24 hV))
 have HT4:=Lib.hid (fun V (hV:Below v4.heap.size v4 V) => HT.out.below (b_trans Hb02.out (b_trans hb24 hV)))
 have HN4:=Lib.hid (fun V (hV:Below v4.heap.size v4 V) => b_trans Hb02.out (b_trans hb24 hV))
 have HB24:=Lib.hid hb24
 have HVl:=Lib.hid hvl
 obtain ⟨k0,k1⟩:=HCell.out v4 hb24
 clear hall1 hall2 hvl hfo hb4 hb24 hvs hOV HFi HOr HInp
 go_wp2_with fail
 refine (HPk.out _).mono ?_; rintro e w5 ⟨rfl,rfl⟩
 have kle:k<=es.length:=Nat.le_of_lt hkl
 have kfc:k<=fc:=Nat.le_trans kle hcf
 have fck:¬ fc=k:=by omega
 have nk:¬ es.length=k:=by omega
 have ki:(k:Int)<=(es.length:Int):=by omega
 have kfi:(k:Int)<=(fc:Int):=by omega
 go_upto_region 5 with fail
 go_cut [12] (fun s12 wx => ∃ (B g2 cap2:Nat),s12=.pointer (some ⟨B,0,none⟩)/\FBz wx B (.slice (some ⟨g2,0,none⟩) es.length cap2) (.slice PA ps.length pc)/\Flds wx (some ⟨g2,0,none⟩) ((es.drop k ++ es.take k).map FE.fd)/\(es.length<=cap2/\cap2<=maxLen)/\Below v4.heap.size v4 wx)
 case first =>
  have hbl:Below v4.heap.size v4 v4:=Below.refl _ _
  go_region_held3 (fun V => V.cell? ⟨B2,0,none⟩=some (.slice (some ⟨gF,0,none⟩) es.length fc)/\V.cell? ⟨B2,1,none⟩=some (.slice PA ps.length pc)) (first | ((with_reducible refine HC4.out _ ?_); (repeat (first | exact hbl | refine b_drew ?_ | refine b_more ?_ _)); done) | ((with_reducible refine HC4.out _ ?_); (refine b_set2' hbl _ ?_ _ _); omega))
   (first | (go_at_call 22; (with_reducible refine (HCC4.out _ _ ?_).mono ?_); (repeat (first | exact Two.first hbl rfl | exact Two.first (b_drew hbl) rfl | exact Two.first (b_more hbl _) (World.size_alloc _ _) | exact Two.first (b_more (b_drew hbl) _) (World.size_alloc _ _) | refine Two.drew ?_ | refine Two.more ?_ _)); rintro e wn ⟨g2,cap2,rfl,hfl2,hcp2,hgl,hgr,hbn⟩; have hbl:Below v4.heap.size v4 wn:=(by refine TyO.b_step ?_ hbn; (repeat (first | exact hbl | refine b_drew ?_ | refine b_more ?_ _))); (first | (have bx:FBz wn (v4.heap.size + 1) (.slice none 0 0) (.slice none 0 0):=FBz.below (FBz.drew (FBz.new (World.size_alloc _ _))) hbn; obtain ⟨z0,z1⟩:=bx.cells; have zf:=bx.frozen; have zl:=bx.lt; have hg9:v4.heap.size + 1 + 1<=g2:=size2 hgl) | (have bx:FBz wn v4.heap.size (.slice none 0 0) (.slice none 0 0):=FBz.below (FBz.drew (FBz.more (FBz.new rfl) _)) hbn; obtain ⟨z0,z1⟩:=bx.cells; have zf:=bx.frozen; have zl:=bx.lt; have hg9:v4.heap.size + 1 + 1<=g2:=size2 hgl) | skip)))
  all_goals (go_wp2_with fail; go_meet)
  all_goals (first | (exact ⟨_,g2,cap2,rfl,FBz.new rfl,hfl2.below (b_new _ _),hcp2,b_more hbl _⟩) | (exact ⟨_,g2,cap2,rfl,bx.set2 _ _,flds_set2 hfl2 (by omega) _ _,hcp2,b_set2' hbl _ (by omega) _ _⟩))
 case rest =>
  obtain ⟨B12,g2,cap2,rfl,hfb,hfl2,hcp2,hb5⟩:=hcut
  obtain ⟨w5,rfl⟩:∃ V,V=wc:=⟨_,rfl⟩
  obtain ⟨k0,k1⟩:=HC4.out w5 hb5
  have ha1:=HA1.out w5 hb5
  have HA1':=Lib.hid ha1
  have HSt5:=Lib.hid (And.intro hfb (And.intro hfl2 (And.intro hcp2 hb5)))
  clear ha1 hfb hfl2 hcp2 hb5 HCC HCC4
  go_wp2_with fail
  refine HA1'.out.mono ?_; rintro e w6 ⟨g6,rfl,hg6,hrow6,hb6⟩
  have hb46:=b_trans HSt5.out.2.2.2 hb6
  have hfb6:=HSt5.out.1.below hb6
  obtain ⟨y0,y1⟩:=hfb6.cells
  have ha2:=HA2.out w6 hb46 g2 cap2 (HSt5.out.2.1.below hb6) HSt5.out.2.2.1
  have HA2':=Lib.hid ha2
  have HSt6:=Lib.hid (And.intro hrow6 hb46)
  clear ha2 hfb6 hrow6 hb6 hb46 hg6 HSt5 HA1'
  go_wp2_with fail
  refine HA2'.out.mono ?_; rintro e w7 ⟨g7,rfl,hg7,hrow7,hb7⟩
  have hb47:=b_trans HSt6.out.2 hb7
  obtain ⟨k0,k1⟩:=HC4.out w7 hb47
  have hkn:=fun V (hV:Below w7.heap.size w7 V) => known_any V (HT4.out V (b_trans hb47 hV))
  have hcv:=fun V b h2 => concatV_two (w:=w7) (V:=V) (b:=b) (HSt6.out.1.below hb7) HVl.out hkl h10 h2
  have htl:(vs.drop k ++ vs.take k).length=es.length:=by rw [List.length_append,List.length_drop,List.length_take]; have:=HVl.out; omega
  have heq:=fun V gv capv (hV:Below w7.heap.size w7 V) hv => equalV_any (vs.drop k ++ vs.take k) es.length (some ⟨gv,0,none⟩) (some ⟨g7,0,none⟩) capv es.length V htl (by omega) hv (Wh15.vls_row (hrow7.below hV))
  have hc7:=fun V (hV:Below w7.heap.size w7 V) => HC4.out V (b_trans hb47 hV)
  have HKn:=Lib.hid hkn
  have HCV:=Lib.hid hcv
  have HEq:=Lib.hid heq
  have HC7:=Lib.hid hc7
  have HN7:=Lib.hid (fun V (hV:Below w7.heap.size w7 V) => HN4.out V (b_trans hb47 hV))
  clear hkn hcv htl heq hc7 hrow7 hb7 hb47 hg7 HSt6 HA2' y0 y1
  have hbl:Below w7.heap.size w7 w7:=Below.refl _ _
  go_wp2_with fail
  go_region_held3 (fun V => V.cell? ⟨B2,0,none⟩=some (.slice (some ⟨gF,0,none⟩) es.length fc)/\V.cell? ⟨B2,1,none⟩=some (.slice PA ps.length pc)) (first | ((with_reducible refine HC7.out _ ?_); (repeat (first | exact hbl | refine b_drew ?_ | refine b_more ?_ _))))
   (first | (go_at_call 16; (with_reducible refine (HKn.out _ ?_).mono ?_); (repeat (first | exact hbl | refine b_drew ?_ | refine b_more ?_ _)); rintro e wp ⟨rfl,hbp⟩; have hbl:Below w7.heap.size w7 wp:=(by refine TyO.b_step ?_ hbp; (repeat (first | exact hbl | refine b_drew ?_ | refine b_more ?_ _)))) | (go_at_call 24; (with_reducible refine (HCV.out _ _ ?_).mono ?_); (repeat (first | exact Two.first hbl rfl | exact Two.first (b_drew hbl) rfl | exact Two.first (b_more hbl _) (World.size_alloc _ _) | exact Two.first (b_more (b_drew hbl) _) (World.size_alloc _ _) | refine Two.drew ?_ | refine Two.more ?_ _)); rintro e wv ⟨gv,capv,rfl,hrv,hbv⟩; have hbl:Below w7.heap.size w7 wv:=(by refine TyO.b_step ?_ hbv; (repeat (first | exact hbl | refine b_drew ?_ | refine b_more ?_ _)))) | (go_at_call 23; (with_reducible refine (HEq.out _ _ _ ?_ ?_).mono ?_); (repeat (first | exact hbl | refine b_drew ?_ | refine b_more ?_ _)); (first | exact hrv | exact hrv.below (b_drew (Below.refl _ _))); rintro e wq ⟨rfl,hbq⟩; have hbl:Below w7.heap.size w7 wq:=(by refine TyO.b_step ?_ hbq; (repeat (first | exact hbl | refine b_drew ?_ | refine b_more ?_ _)))))
  all_goals
   have HN:=Lib.hid (HN7.out _ hbl)
   clear hbl
   go_wp2_with fail
   go_ret
   exact ⟨rfl,HN.out⟩
end Go.Proofs.YtonlkmkfcaadlaaGreatDoor.wholeTurned
