/- What is proved: the Go law lychwaykeep.TextTurned returns true for all its arguments,and leaves them as they were. No condition. -/
import Derived.Test.YtjhhmdmmllblhaaGreatDoorRows
import Derived.Test.YtjhhmdmmllblhaaGreatDoorKt03
import Derived.Test.YtjhhmdmmllblhaaGreatDoorKt17
import Derived.Test.YtjhhmdmmllblhaaGreatDoorKt25
import Derived.Test.YtjhhmdmmllblhaaGreatDoorShapedAnd
import Derived.WalkKit
import Derived.ProofKit
import Derived.OpenShut
import Derived.Deep.RegionHeld3
import Derived.Deep.DrawnRows
import Derived.Deep.DeepCutAuto
import Derived.Deep.QuietTactic
import Derived.BigQuiet
import Derived.WalkSpells
import Derived.WalkLawsBesides
import Derived.Lib.Hide
import Derived.Outline
import Derived.ShutString
import Derived.ChangeOld
import Derived.Below
import Derived.LaidMore
import Derived.SizedLaws
import Derived.Stop.Joined
import Derived.Stop.LaidErr
import Derived.Lib.LaidTab
import Derived.SevenTiedAt
import Derived.Lay
import Derived.LaidOnce
import Derived.Deep.DeepHandedRow
import Derived.Test.YtjhhmdmmllblhaaGreatDoorCards
import Derived.Test.YtjhhmdmmllblhaaGreatDoorTie
namespace Go.Proofs.YtjhhmdmmllblhaaGreatDoor.textTurned
open ValM LexM NumM ExM NmM Kit ExL ExP ExN RawV Within RawL RawN GenL FldP FldR FldC FrmM Frm FrmT FrmO PgM PgA PgF RkM RkA RkD RkO RkS RkK ShT ShL ShG TxM TxR TxP TxT TxQ TxN TxF TxU TxK TxI TxV
open Go.ChangeShapes Go.WideShapes Go.ChangeAt Go.RowKit
open Go.ChangeMaps (open_string shut_string)
theorem own:ownKnob Tryz.prog.godebug=none:=by kernel_rfl
theorem laidOut:laidOutB Tryz.prog=true:=by kernel_rfl
/-! ### The walk -/
set_option maxRecDepth 100000 in
set_option maxHeartbeats 16000000 in
theorem walk (A0 : Option Addr) (n0 : Nat) (c0 : Nat) (a1 : Int) (w1 : (Lit.int .i64 a1).wf = true) (w : World) (hraw0 : RawL.Raws w A0 n0 c0) (ht : ExN.Tab w) (hp : Show.Pow w) (hErrRange : ∃ p, w.var? Tryz.prog "strconv.ErrRange" = some #[.iface 265 p]) (hErrSyntax : ∃ p, w.var? Tryz.prog "strconv.ErrSyntax" = some #[.iface 265 p]) (t_signs : StrTab.Is Tryz.prog w "lychway/lex.signs" [[60, 61], [33, 61], [60], [61], [43], [45], [42], [47], [37], [38], [40], [41], [44]]) (t_kinds : StrTab.Is Tryz.prog w "lychway/text.kinds" [[], [105, 110, 112, 117, 116], [102, 111, 114, 109, 117, 108, 97], [108, 111, 111, 107, 117, 112]]) (t_types : StrTab.Is Tryz.prog w "lychway/text.types" [[], [105, 110, 116], [98, 111, 111, 108], [116, 101, 120, 116]]) (hmax : ∃ m, w.cell? ⟨2, 0, none⟩ = some (.int .i64 m)) :
  Calls Tryz.prog 3 #[.slice A0 n0 c0,.int .i64 a1] w fun e w' => e=.returned (.bool true)/\Below w.heap.size w w':=by
 have hvr:RVars w:=⟨⟨⟨ht,hp⟩,t_kinds,t_types⟩,⟨hErrSyntax,hErrRange,t_signs⟩,⟨hp,hErrSyntax,hErrRange⟩,hmax⟩
 obtain ⟨rs,rfl,hrv⟩:=RawN.Raws.val n0 hraw0
 have hF:=form_any c0 A0 rs w hrv
 have HF:=Lib.hid hF
 have HT:=Lib.hid ht
 have HV:=Lib.hid hvr
 have HW1:=Lib.hid w1
 clear hF hrv hraw0 ht hp t_kinds t_types hErrSyntax hErrRange t_signs hmax hvr w1
 go_enter Tryz.func3,Tryz.ntmps3
 go_wp2_with fail
 refine HF.out.mono ?_; rintro e v1 ⟨es,FA,fc,ps,PA,pc,rfl,hv,hpv,hfr,hpr,hb,hcap,hpcap,-⟩
 obtain ⟨hok,hrk,hn10,hp4⟩:=gen_ok hv hfr hpv hpr
 have hck:=form_check hv hfr hpv hpr hcap hpcap (HT.out.below hb)
 obtain ⟨hpl,hgood,hgn,hsz⟩:=form_pages hv hfr hpv hpr
 have hpgs:=prow_pgs hpr
 have hpok:=prow_ok hpr hsz
 have hfl:=frow_flds hfr
 have hps:=prow_caps hpr
 have hprint:=TxQ.print_any es ps (xOf es) FA fc PA pc 0 v1 hfl hpgs hpok (fun e he => (hps e he).2) (by omega) (by omega) (fun _ => hok) (fun V hV => hck V hV) (HV.out.below hb).tv
 rw [if_pos rfl] at hprint
 obtain ⟨T,hT⟩:∃ T:ByteArray,(⟨(formL es ps).toArray⟩:ByteArray)=T:=⟨_,rfl⟩
 rw [hT] at hprint
 have hTl:T.data.toList=formL es ps:=by rw [← hT]
 have hTs:T.size<=130000:=by show T.data.toList.length<=_; rw [hTl]; exact hok.size
 obtain ⟨L,hLs,hLl,hsp⟩:=split_lines T
 have hLf:L.map (fun t => t.data.toList)=linesF (es.map flE) (ps.map plE):=by rw [hLs,hTl]; exact hok.split
 have hfew:=hok.few
 have hLn:L.length=es.length + ps.length:=by
  have:=congrArg List.length hLf
  rw [List.length_map] at this
  rw [this]; unfold linesF; simp
 have hL0:0 < L.length:=by omega
 have hL20:L.length<=14:=by omega
 have hTe:T.toList.isEmpty=false:=by
  rw [ByteArray.toList_eq,hTl]
  cases h:formL es ps with
  | cons a r => rfl
  | nil => exact absurd h (form_ne hok)
 obtain ⟨n,hn⟩:∃ n,L.length=n:=⟨_,rfl⟩
 have hpk:=pick_bd a1 (n:Int) (by omega)
 obtain ⟨k,hk⟩:∃ k:Nat,pick a1 (n:Int)=(k:Int):=⟨(pick a1 (n:Int)).toNat,by omega⟩
 have hkn:k < n:=by omega
 have hpi:=fun W => picked_any a1 (n:Int) W HW1.out (by omega) (by omega)
 rw [hk] at hpi
 have hk1:IntKind.i64.wrap (1 + (k:Int))=1 + (k:Int):=IntWalk.i64_in _ (by omega)
 have hk2:IntKind.i64.wrap ((k:Int) + 1)=(k:Int) + 1:=IntWalk.i64_in _ (by omega)
 obtain ⟨ln,U1,U2,hTF⟩:=turn_facts hok hrk hn10 hp4 (HV.out.below hb) hLf hn hkn
 have hlong:(∃ l ∈ linesF (es.map flE) (ps.map plE),160 < l.length)->LongL L:=fun ⟨l,hl,hlt⟩ => by
  rw [← hLf] at hl
  obtain ⟨t,ht,rfl⟩:=List.mem_map.1 hl
  obtain ⟨j,hj,rfl⟩:=List.getElem_of_mem ht
  exact ⟨j,hj,hlt⟩
 have HTF:=Lib.hid hTF
 have HPrint:=Lib.hid hprint
 have HSp:=Lib.hid hsp
 have HPi:=Lib.hid hpi
 have HB:=Lib.hid hb
 have HN:=Lib.hid hn
 clear hTF hprint hsp hpi hb hn hpk hk hps hfl hpok hpgs hck hlong hLf hLs hLl hTl hok hrk hpl hgood hgn hsz
 go_wp2_with fail
 refine HPrint.out.mono ?_; rintro e v2 ⟨rfl,hb2⟩
 have HB2:=Lib.hid hb2
 clear hb2
 go_wp2_with fail
 have hspl:=HSp.out v2 (by omega) (HV.out.below (b_trans HB.out HB2.out)).mx
 refine hspl.mono ?_; rintro e v3 ⟨G,rfl,hG1,hG2,hGc,hb3⟩
 rw [HN.out]
 clear hspl
 have hb13:=b_trans HB2.out hb3
 have hgc:∀ V,Below v3.heap.size v3 V->∀ (j:Nat) (h:j < L.length),V.cell? ⟨G,j,none⟩=some (.string L[j]):=fun V hV j h => (hV.cell (p:=⟨G,j,none⟩) hG2).trans (hGc j h)
 have hkL:k < L.length:=by have:=HN.out; omega
 have hc:∀ V,Below v3.heap.size v3 V->V.cell? ⟨G,k,none⟩=some (.string ln):=fun V hV => by
  rw [hgc V hV k hkL,HTF.out.at' hkL]
 have hset:∀ (U:World) (B:Nat) (x y:Value),Below v3.heap.size v3 U->v3.heap.size<=B->∀ V,V=(U.setCell ⟨B,0,none⟩ x).setCell ⟨B,1,none⟩ y->V.cell? ⟨G,k,none⟩=some (.string ln):=fun U B x y hU hB V hV => by
  rw [hV]
  exact hc _ ((hU.setCell (p:=⟨B,0,none⟩) hB x).setCell (p:=⟨B,1,none⟩) hB y)
 have hr1:∀ V,Below v3.heap.size v3 V->Calls Tryz.prog 8 #[.string U1] V (BadOut L 6 (fun _ => True) V):=fun V hV => HTF.out.r1 V (b_trans hb13 hV)
 have hr2:∀ V,Below v3.heap.size v3 V->Calls Tryz.prog 8 #[.string U2] V (BadOut L 3 (fun kl => kl=(k:Int) + 1) V):=fun V hV => HTF.out.r2 V (b_trans hb13 hV)
 have HCl:=Lib.hid HTF.out.cl
 have HIn:=Lib.hid HTF.out.ins
 have HJ1:=Lib.hid HTF.out.j1
 have HJ2:=Lib.hid HTF.out.j2
 have HR1:=Lib.hid hr1
 have HR2:=Lib.hid hr2
 have HGc:=Lib.hid hgc
 have HC:=Lib.hid hc
 have HSet:=Lib.hid hset
 have HB13:=Lib.hid hb13
 have HB03:=Lib.hid (b_trans HB.out hb13)
 clear hr1 hr2 hgc hc hset hb13 hb3
 unfold JoinP at HJ1 HJ2
 unfold BadOut zeroFm at HR1 HR2
 go_wp2_with fail
 refine (HPi.out _).mono ?_; rintro e w9 ⟨rfl,rfl⟩
 have hbl:Below v3.heap.size v3 v3:=Below.refl _ _
 have hc0:=HC.out v3 hbl
 have hsd:∀ V:World,V.drew.heap.size=V.heap.size:=fun _ => rfl
 go_upto_region 4 with fail
 go_cut [9,10,11] (fun s9 s10 s11 wx => ∃ (B:Nat) (kl er:Int),s9=.pointer (some ⟨B,0,none⟩)/\s10=.int .i64 kl/\s11=.int .i64 er/\er ≠ 0/\((er=6/\True) ∨ LongL L)/\Below v3.heap.size v3 wx)
 case first =>
  go_region_held3 (fun V => V.cell? ⟨G,k,none⟩=some (.string ln)) (first | (with_reducible exact HC.out _ (hbl)) | (with_reducible exact HC.out _ (b_drew (hbl))) | (with_reducible exact HC.out _ (b_more (hbl) _)) | (with_reducible exact HC.out _ (b_more (b_more (hbl) _) _)) | (with_reducible exact HC.out _ (b_more (b_drew (hbl)) _)) | (with_reducible exact HC.out _ (b_drew (b_more (hbl) _))) | (with_reducible exact HC.out _ (b_more (b_more (b_drew (hbl)) _) _)) | (with_reducible exact HC.out _ (b_drew (b_more (b_more (hbl) _) _))) | (with_reducible exact HC.out _ (b_more (b_drew (b_more (hbl) _)) _)) | (with_reducible exact HSet.out _ _ _ _ hbl (by first | exact Nat.le_refl _ | exact sn | exact si | exact sj | exact sr | omega) _ rfl))
   (first | (go_at_call 11; (with_reducible refine (HCl.out _ _ ?_).mono ?_); (first | (exact fun j h => HGc.out _ (hbl) j h) | (exact fun j h => HGc.out _ (b_drew (hbl)) j h) | (exact fun j h => HGc.out _ (b_more (hbl) _) j h) | (exact fun j h => HGc.out _ (b_more (b_more (hbl) _) _) j h) | (exact fun j h => HGc.out _ (b_more (b_drew (hbl)) _) j h) | (exact fun j h => HGc.out _ (b_drew (b_more (hbl) _)) j h) | (exact fun j h => HGc.out _ (b_more (b_more (b_drew (hbl)) _) _) j h) | (exact fun j h => HGc.out _ (b_drew (b_more (b_more (hbl) _) _)) j h) | (exact fun j h => HGc.out _ (b_more (b_drew (b_more (hbl) _)) _) j h)); rintro e wn ⟨bb,cc,cur,rfl,hbge,hblt,hrow,hbn⟩; have hb3:v3.heap.size<=bb:=Nat.le_trans (Below.size (by first | (exact hbl) | (exact b_drew (hbl)) | (exact b_more (hbl) _) | (exact b_more (b_more (hbl) _) _) | (exact b_more (b_drew (hbl)) _) | (exact b_drew (b_more (hbl) _)) | (exact b_more (b_more (b_drew (hbl)) _) _) | (exact b_drew (b_more (b_more (hbl) _) _)) | (exact b_more (b_drew (b_more (hbl) _)) _))) hbge; (first | (have hvb:=Nat.lt_of_lt_of_le (At1.new _ _).lt hbge) | (have hvb:=Nat.lt_of_lt_of_le ((At1.new _ _).drew).lt hbge) | (have hvb:=Nat.lt_of_lt_of_le ((At1.new _ _).more _).lt hbge) | (have hvb:=Nat.lt_of_lt_of_le (((At1.new _ _).more _).drew).lt hbge) | (have hvb:=Nat.lt_of_lt_of_le (((At1.new _ _).drew.more _)).lt hbge) | (have hvb:=Nat.lt_of_lt_of_le (ho).lt hbge) | (have hvb:=Nat.lt_of_lt_of_le (ho.drew).lt hbge) | (have hvb:=Nat.lt_of_lt_of_le ((ho.more _)).lt hbge) | (have hvb:=Nat.lt_of_lt_of_le ((ho.more _).drew).lt hbge) | (have hvb:=Nat.lt_of_lt_of_le ((ho.drew.more _)).lt hbge) | (have hvb:=Nat.lt_of_lt_of_le (((ho.more _).more _)).lt hbge) | skip); (first | (have ho:=(At1.new _ _).below hbn) | (have ho:=((At1.new _ _).drew).below hbn) | (have ho:=((At1.new _ _).more _).below hbn) | (have ho:=(((At1.new _ _).more _).drew).below hbn) | (have ho:=(((At1.new _ _).drew.more _)).below hbn) | (have ho:=(ho).below hbn) | (have ho:=(ho.drew).below hbn) | (have ho:=((ho.more _)).below hbn) | (have ho:=((ho.more _).drew).below hbn) | (have ho:=((ho.drew.more _)).below hbn) | (have ho:=(((ho.more _).more _)).below hbn) | skip); (first | (simp only [World.size_alloc] at ho) | skip); (first | (have hx:=(AtF.new _).below hbn) | (have hx:=((AtF.new _).drew).below hbn) | (have hx:=((AtF.new _).more _).below hbn) | (have hx:=(((AtF.new _).more _).drew).below hbn) | (have hx:=(((AtF.new _).drew.more _)).below hbn) | (have hx:=(hx).below hbn) | (have hx:=(hx.drew).below hbn) | (have hx:=((hx.more _)).below hbn) | (have hx:=((hx.more _).drew).below hbn) | (have hx:=((hx.drew.more _)).below hbn) | (have hx:=(((hx.more _).more _)).below hbn) | skip); (first | (simp only [World.size_alloc] at hx) | skip); have hbl:Below v3.heap.size v3 wn:=(by first | (exact TyO.b_step (hbl) hbn) | (exact TyO.b_step (b_drew (hbl)) hbn) | (exact TyO.b_step (b_more (hbl) _) hbn) | (exact TyO.b_step (b_more (b_more (hbl) _) _) hbn) | (exact TyO.b_step (b_more (b_drew (hbl)) _) hbn) | (exact TyO.b_step (b_drew (b_more (hbl) _)) hbn) | (exact TyO.b_step (b_more (b_more (b_drew (hbl)) _) _) hbn) | (exact TyO.b_step (b_drew (b_more (b_more (hbl) _) _)) hbn) | (exact TyO.b_step (b_more (b_drew (b_more (hbl) _)) _) hbn)); have sn:=hbl.size; (first | (obtain ⟨z0,z1,zf,zl⟩:=hx.cells; (first | (simp only [World.size_alloc] at z0 z1 zf zl) | skip)) | skip)) | (go_at_call 10; (with_reducible refine (HIn.out ln _ _ _ _ cur ?_ ?_ ?_).mono ?_); (first | (exact hrow) | (exact hrow.below (b_drew (Below.refl _ _))) | (exact hrow.more _) | (exact (hrow.more _).more _) | (exact (hrow.below (b_drew (Below.refl _ _))).more _) | (exact (hrow.more _).below (b_drew (Below.refl _ _))) | (exact ((hrow.below (b_drew (Below.refl _ _))).more _).more _)); (first | (exact At1.new _ _) | (exact (At1.new _ _).drew) | (exact (At1.new _ _).more _) | (exact ((At1.new _ _).more _).drew) | (exact ((At1.new _ _).drew.more _)) | (exact ho) | (exact ho.drew) | (exact (ho.more _)) | (exact (ho.more _).drew) | (exact (ho.drew.more _)) | (exact ((ho.more _).more _)) | (exact At1.at_ _ _ _ (by simp)) | (exact (At1.at_ _ _ _ (by simp)).more _)); (first | (exact Nat.ne_of_lt hvb) | ((have hqq:=hrow.lt; omega)) | ((have hqq:=hrow.lt; simp only [World.size_alloc]; omega)) | ((have hqq:=hvb; simp only [World.size_alloc] at hqq; omega)) | (exact Nat.ne_of_gt hrow.lt) | (exact Nat.ne_of_gt (hrow.more _).lt) | (exact Nat.ne_of_gt (hrow.below (b_drew (Below.refl _ _))).lt) | (exact Nat.ne_of_gt ((hrow.below (b_drew (Below.refl _ _))).more _).lt)); rintro e wi ⟨b2,c2,rfl,hc2,hrc,hbw,hkeep⟩; (first | (have hx:=AtF.ins (AtF.new _) (hrow) hkeep) | (have hx:=AtF.ins (AtF.new _) (hrow.below (b_drew (Below.refl _ _))) hkeep) | (have hx:=AtF.ins (AtF.new _) (hrow.more _) hkeep) | (have hx:=AtF.ins (AtF.new _) ((hrow.more _).more _) hkeep) | (have hx:=AtF.ins (AtF.new _) ((hrow.below (b_drew (Below.refl _ _))).more _) hkeep) | (have hx:=AtF.ins (AtF.new _) ((hrow.more _).below (b_drew (Below.refl _ _))) hkeep) | (have hx:=AtF.ins (AtF.new _) (((hrow.below (b_drew (Below.refl _ _))).more _).more _) hkeep) | (have hx:=AtF.ins ((AtF.new _).drew) (hrow) hkeep) | (have hx:=AtF.ins ((AtF.new _).drew) (hrow.below (b_drew (Below.refl _ _))) hkeep) | (have hx:=AtF.ins ((AtF.new _).drew) (hrow.more _) hkeep) | (have hx:=AtF.ins ((AtF.new _).drew) ((hrow.more _).more _) hkeep) | (have hx:=AtF.ins ((AtF.new _).drew) ((hrow.below (b_drew (Below.refl _ _))).more _) hkeep) | (have hx:=AtF.ins ((AtF.new _).drew) ((hrow.more _).below (b_drew (Below.refl _ _))) hkeep) | (have hx:=AtF.ins ((AtF.new _).drew) (((hrow.below (b_drew (Below.refl _ _))).more _).more _) hkeep) | (have hx:=AtF.ins ((AtF.new _).more _) (hrow) hkeep) | (have hx:=AtF.ins ((AtF.new _).more _) (hrow.below (b_drew (Below.refl _ _))) hkeep) | (have hx:=AtF.ins ((AtF.new _).more _) (hrow.more _) hkeep) | (have hx:=AtF.ins ((AtF.new _).more _) ((hrow.more _).more _) hkeep) | (have hx:=AtF.ins ((AtF.new _).more _) ((hrow.below (b_drew (Below.refl _ _))).more _) hkeep) | (have hx:=AtF.ins ((AtF.new _).more _) ((hrow.more _).below (b_drew (Below.refl _ _))) hkeep) | (have hx:=AtF.ins ((AtF.new _).more _) (((hrow.below (b_drew (Below.refl _ _))).more _).more _) hkeep) | (have hx:=AtF.ins (((AtF.new _).more _).drew) (hrow) hkeep) | (have hx:=AtF.ins (((AtF.new _).more _).drew) (hrow.below (b_drew (Below.refl _ _))) hkeep) | (have hx:=AtF.ins (((AtF.new _).more _).drew) (hrow.more _) hkeep) | (have hx:=AtF.ins (((AtF.new _).more _).drew) ((hrow.more _).more _) hkeep) | (have hx:=AtF.ins (((AtF.new _).more _).drew) ((hrow.below (b_drew (Below.refl _ _))).more _) hkeep) | (have hx:=AtF.ins (((AtF.new _).more _).drew) ((hrow.more _).below (b_drew (Below.refl _ _))) hkeep) | (have hx:=AtF.ins (((AtF.new _).more _).drew) (((hrow.below (b_drew (Below.refl _ _))).more _).more _) hkeep) | (have hx:=AtF.ins (((AtF.new _).drew.more _)) (hrow) hkeep) | (have hx:=AtF.ins (((AtF.new _).drew.more _)) (hrow.below (b_drew (Below.refl _ _))) hkeep) | (have hx:=AtF.ins (((AtF.new _).drew.more _)) (hrow.more _) hkeep) | (have hx:=AtF.ins (((AtF.new _).drew.more _)) ((hrow.more _).more _) hkeep) | (have hx:=AtF.ins (((AtF.new _).drew.more _)) ((hrow.below (b_drew (Below.refl _ _))).more _) hkeep) | (have hx:=AtF.ins (((AtF.new _).drew.more _)) ((hrow.more _).below (b_drew (Below.refl _ _))) hkeep) | (have hx:=AtF.ins (((AtF.new _).drew.more _)) (((hrow.below (b_drew (Below.refl _ _))).more _).more _) hkeep) | (have hx:=AtF.ins (hx) (hrow) hkeep) | (have hx:=AtF.ins (hx) (hrow.below (b_drew (Below.refl _ _))) hkeep) | (have hx:=AtF.ins (hx) (hrow.more _) hkeep) | (have hx:=AtF.ins (hx) ((hrow.more _).more _) hkeep) | (have hx:=AtF.ins (hx) ((hrow.below (b_drew (Below.refl _ _))).more _) hkeep) | (have hx:=AtF.ins (hx) ((hrow.more _).below (b_drew (Below.refl _ _))) hkeep) | (have hx:=AtF.ins (hx) (((hrow.below (b_drew (Below.refl _ _))).more _).more _) hkeep) | (have hx:=AtF.ins (hx.drew) (hrow) hkeep) | (have hx:=AtF.ins (hx.drew) (hrow.below (b_drew (Below.refl _ _))) hkeep) | (have hx:=AtF.ins (hx.drew) (hrow.more _) hkeep) | (have hx:=AtF.ins (hx.drew) ((hrow.more _).more _) hkeep) | (have hx:=AtF.ins (hx.drew) ((hrow.below (b_drew (Below.refl _ _))).more _) hkeep) | (have hx:=AtF.ins (hx.drew) ((hrow.more _).below (b_drew (Below.refl _ _))) hkeep) | (have hx:=AtF.ins (hx.drew) (((hrow.below (b_drew (Below.refl _ _))).more _).more _) hkeep) | (have hx:=AtF.ins ((hx.more _)) (hrow) hkeep) | (have hx:=AtF.ins ((hx.more _)) (hrow.below (b_drew (Below.refl _ _))) hkeep) | (have hx:=AtF.ins ((hx.more _)) (hrow.more _) hkeep) | (have hx:=AtF.ins ((hx.more _)) ((hrow.more _).more _) hkeep) | (have hx:=AtF.ins ((hx.more _)) ((hrow.below (b_drew (Below.refl _ _))).more _) hkeep) | (have hx:=AtF.ins ((hx.more _)) ((hrow.more _).below (b_drew (Below.refl _ _))) hkeep) | (have hx:=AtF.ins ((hx.more _)) (((hrow.below (b_drew (Below.refl _ _))).more _).more _) hkeep) | (have hx:=AtF.ins ((hx.more _).drew) (hrow) hkeep) | (have hx:=AtF.ins ((hx.more _).drew) (hrow.below (b_drew (Below.refl _ _))) hkeep) | (have hx:=AtF.ins ((hx.more _).drew) (hrow.more _) hkeep) | (have hx:=AtF.ins ((hx.more _).drew) ((hrow.more _).more _) hkeep) | (have hx:=AtF.ins ((hx.more _).drew) ((hrow.below (b_drew (Below.refl _ _))).more _) hkeep) | (have hx:=AtF.ins ((hx.more _).drew) ((hrow.more _).below (b_drew (Below.refl _ _))) hkeep) | (have hx:=AtF.ins ((hx.more _).drew) (((hrow.below (b_drew (Below.refl _ _))).more _).more _) hkeep) | (have hx:=AtF.ins ((hx.drew.more _)) (hrow) hkeep) | (have hx:=AtF.ins ((hx.drew.more _)) (hrow.below (b_drew (Below.refl _ _))) hkeep) | (have hx:=AtF.ins ((hx.drew.more _)) (hrow.more _) hkeep) | (have hx:=AtF.ins ((hx.drew.more _)) ((hrow.more _).more _) hkeep) | (have hx:=AtF.ins ((hx.drew.more _)) ((hrow.below (b_drew (Below.refl _ _))).more _) hkeep) | (have hx:=AtF.ins ((hx.drew.more _)) ((hrow.more _).below (b_drew (Below.refl _ _))) hkeep) | (have hx:=AtF.ins ((hx.drew.more _)) (((hrow.below (b_drew (Below.refl _ _))).more _).more _) hkeep) | (have hx:=AtF.ins (((hx.more _).more _)) (hrow) hkeep) | (have hx:=AtF.ins (((hx.more _).more _)) (hrow.below (b_drew (Below.refl _ _))) hkeep) | (have hx:=AtF.ins (((hx.more _).more _)) (hrow.more _) hkeep) | (have hx:=AtF.ins (((hx.more _).more _)) ((hrow.more _).more _) hkeep) | (have hx:=AtF.ins (((hx.more _).more _)) ((hrow.below (b_drew (Below.refl _ _))).more _) hkeep) | (have hx:=AtF.ins (((hx.more _).more _)) ((hrow.more _).below (b_drew (Below.refl _ _))) hkeep) | (have hx:=AtF.ins (((hx.more _).more _)) (((hrow.below (b_drew (Below.refl _ _))).more _).more _) hkeep) | skip); (first | (simp only [World.size_alloc] at hx) | skip); have hbn2:=hbw _ hb3; have hbl:Below v3.heap.size v3 wi:=(by first | (exact (hbl).trans hbn2) | (exact (b_drew (hbl)).trans hbn2) | (exact (b_more (hbl) _).trans hbn2) | (exact (b_more (b_more (hbl) _) _).trans hbn2) | (exact (b_more (b_drew (hbl)) _).trans hbn2) | (exact (b_drew (b_more (hbl) _)).trans hbn2) | (exact (b_more (b_more (b_drew (hbl)) _) _).trans hbn2) | (exact (b_drew (b_more (b_more (hbl) _) _)).trans hbn2) | (exact (b_more (b_drew (b_more (hbl) _)) _).trans hbn2)); have si:=hbl.size; (first | (obtain ⟨z0,z1,zf,zl⟩:=hx.cells; (first | (simp only [World.size_alloc] at z0 z1 zf zl) | skip)) | skip)) | (go_at_call 9; (with_reducible refine (HJ1.out _ _ _ ?_ hc2).mono ?_); (first | (exact hrc) | (exact hrc.drew) | (exact hrc.more _) | (exact (hrc.more _).drew) | (exact (hrc.drew).more _)); rintro e wj ⟨rfl,hbn⟩; (first | (have hx:=(AtF.new _).below hbn) | (have hx:=((AtF.new _).drew).below hbn) | (have hx:=((AtF.new _).more _).below hbn) | (have hx:=(((AtF.new _).more _).drew).below hbn) | (have hx:=(((AtF.new _).drew.more _)).below hbn) | (have hx:=(hx).below hbn) | (have hx:=(hx.drew).below hbn) | (have hx:=((hx.more _)).below hbn) | (have hx:=((hx.more _).drew).below hbn) | (have hx:=((hx.drew.more _)).below hbn) | (have hx:=(((hx.more _).more _)).below hbn) | skip); (first | (simp only [World.size_alloc] at hx) | skip); have hbl:Below v3.heap.size v3 wj:=(by first | (exact TyO.b_step (hbl) hbn) | (exact TyO.b_step (b_drew (hbl)) hbn) | (exact TyO.b_step (b_more (hbl) _) hbn) | (exact TyO.b_step (b_more (b_more (hbl) _) _) hbn) | (exact TyO.b_step (b_more (b_drew (hbl)) _) hbn) | (exact TyO.b_step (b_drew (b_more (hbl) _)) hbn) | (exact TyO.b_step (b_more (b_more (b_drew (hbl)) _) _) hbn) | (exact TyO.b_step (b_drew (b_more (b_more (hbl) _) _)) hbn) | (exact TyO.b_step (b_more (b_drew (b_more (hbl) _)) _) hbn)); have sj:=hbl.size; (first | (obtain ⟨z0,z1,zf,zl⟩:=hx.cells; (first | (simp only [World.size_alloc] at z0 z1 zf zl) | skip)) | skip)) | (go_at_call 8; (with_reducible refine (HR1.out _ ?_).mono ?_); (first | (exact hbl) | (exact b_drew (hbl)) | (exact b_more (hbl) _) | (exact b_more (b_more (hbl) _) _) | (exact b_more (b_drew (hbl)) _) | (exact b_drew (b_more (hbl) _)) | (exact b_more (b_more (b_drew (hbl)) _) _) | (exact b_drew (b_more (b_more (hbl) _) _)) | (exact b_more (b_drew (b_more (hbl) _)) _)); rintro e wr ⟨kl,er,rfl,her0,hcase,hbn⟩; (first | (have hx:=(AtF.new _).below hbn) | (have hx:=((AtF.new _).drew).below hbn) | (have hx:=((AtF.new _).more _).below hbn) | (have hx:=(((AtF.new _).more _).drew).below hbn) | (have hx:=(((AtF.new _).drew.more _)).below hbn) | (have hx:=(hx).below hbn) | (have hx:=(hx.drew).below hbn) | (have hx:=((hx.more _)).below hbn) | (have hx:=((hx.more _).drew).below hbn) | (have hx:=((hx.drew.more _)).below hbn) | (have hx:=(((hx.more _).more _)).below hbn) | skip); (first | (simp only [World.size_alloc] at hx) | skip); have hbl:Below v3.heap.size v3 wr:=(by first | (exact TyO.b_step (hbl) hbn) | (exact TyO.b_step (b_drew (hbl)) hbn) | (exact TyO.b_step (b_more (hbl) _) hbn) | (exact TyO.b_step (b_more (b_more (hbl) _) _) hbn) | (exact TyO.b_step (b_more (b_drew (hbl)) _) hbn) | (exact TyO.b_step (b_drew (b_more (hbl) _)) hbn) | (exact TyO.b_step (b_more (b_more (b_drew (hbl)) _) _) hbn) | (exact TyO.b_step (b_drew (b_more (b_more (hbl) _) _)) hbn) | (exact TyO.b_step (b_more (b_drew (b_more (hbl) _)) _) hbn)); have sr:=hbl.size; (first | (obtain ⟨z0,z1,zf,zl⟩:=hx.cells; (first | (simp only [World.size_alloc] at z0 z1 zf zl) | skip)) | skip)))
  all_goals (go_wp2_with fail; go_meet)
  all_goals (first | (exact ⟨_,kl,er,rfl,rfl,rfl,her0,hcase,b_more hbl _⟩) | (exact ⟨_,kl,er,rfl,rfl,rfl,her0,hcase,b_set2 hbl (by first | exact Nat.le_refl _ | exact sn | exact si | exact sj | exact sr | omega) _ _⟩))
 case rest =>
  obtain ⟨B,kl,er,rfl,rfl,rfl,her,hcase,hbx⟩:=hcut
  have hgc5:∀ (j:Nat) (h:j < L.length),wc.cell? ⟨G,j,none⟩=some (.string L[j]):=fun j h => HGc.out wc hbx j h
  have HCl5:=Lib.hid (HCl.out G wc hgc5)
  have HBx:=Lib.hid hbx
  have HCase:=Lib.hid hcase
  have t1:(er != 0)=true:=bne_iff_ne.2 her
  have HEr:=Lib.hid her
  clear hgc5 hbx hcase her hc0
  go_wp2_with fail
  refine HCl5.out.mono ?_; rintro e wn ⟨bb,cc,cur,rfl,hbge,hblt,hrow,hbn⟩
  have hb3:v3.heap.size<=bb:=Nat.le_trans HBx.out.size hbge
  have hbl:=TyO.b_step HBx.out hbn
  have hrow2:=hrow.more (.cells #[.string ⟨#[119,104,97,116]⟩] 9)
  have hat2:=At1.new wn ⟨#[119,104,97,116]⟩
  have hne2:wn.heap.size ≠ bb:=Nat.ne_of_gt hrow.lt
  have HIn5:=Lib.hid (HIn.out ⟨#[119,104,97,116]⟩ _ bb cc wn.heap.size cur hrow2 hat2 hne2)
  have hbl2:=b_more hbl (.cells #[.string ⟨#[119,104,97,116]⟩] 9)
  have HB3:=Lib.hid hb3
  have HBl2:=Lib.hid hbl2
  clear hbl hrow2 hat2 hne2 hrow hbn hbge hblt hb3 hbl2
  go_wp2_with fail
  refine HIn5.out.mono ?_; rintro e wi ⟨b2,c2,rfl,hc2,hrc,hbw,hkeep⟩
  have hbl:=HBl2.out.trans (hbw _ HB3.out)
  have HJ5:=Lib.hid (HJ2.out wi b2 c2 hrc hc2)
  have HBl3:=Lib.hid hbl
  clear hbl hbw hkeep hrc
  go_wp2_with fail
  refine HJ5.out.mono ?_; rintro e wj ⟨rfl,hbn⟩
  have hbl:=TyO.b_step HBl3.out hbn
  have HR5:=Lib.hid (HR2.out wj hbl)
  have HBl4:=Lib.hid hbl
  clear hbl hbn
  go_wp2_with fail
  refine HR5.out.mono ?_; rintro e wr ⟨kl2,er2,rfl,her2,hcase2,hbn⟩
  have hbl:=b_more (TyO.b_step HBl4.out hbn) (.cells #[.slice none 0 0,.slice none 0 0] 29)
  have t2:(er2 != 0)=true:=bne_iff_ne.2 her2
  obtain ⟨W8,hW8⟩:∃ V,wr.alloc (.cells #[.slice none 0 0,.slice none 0 0] 29)=V:=⟨_,rfl⟩
  rw [hW8] at hbl
  have HW8:=Lib.hid hW8
  have HBl8:=Lib.hid hbl
  have HC2:=Lib.hid hcase2
  have HEr2:=Lib.hid her2
  have hgc8:=HGc.out W8 hbl
  have HG8:=Lib.hid hgc8
  have HBE:=Lib.hid (b_trans HB03.out hbl)
  clear hbl hbn hcase2 her2 hW8 hgc8
  go_upto_region 6 with fail
  rw [HW8.out]
  go_wp2_with fail
  go_loop [16,63] (fun _ ii => ∃ k:Nat,ii=.int .i64 k/\k<=n/\∀ (j:Nat) (h:j < L.length),j < k->L[j].size<=160) (fun _ ii => n - (intOf ii).toNat)
  case atStart => exact ⟨0,rfl,Nat.zero_le _,fun j _ hj => absurd hj (Nat.not_lt_zero _)⟩
  case round =>
   obtain ⟨q,rfl,hq,hall⟩:=hrel
   by_cases hlt:q < n
   ·have hqL:q < L.length:=by have:=HN.out; omega
    have hcell:=HG8.out q hqL
    obtain ⟨l9,hl9⟩:∃ l9,L[q]=l9:=⟨_,rfl⟩
    rw [hl9] at hcell
    by_cases hlg:160 < l9.size
    ·have tl:(160:Int) < (l9.size:Int):=by omega
     clear hall hl9
     go_wp2_with fail
     go_ret
     exact ⟨rfl,HBE.out⟩
    ·have tl:¬ (160:Int) < (l9.size:Int):=by omega
     have HAll:=Lib.hid (show ∀ (j:Nat) (h:j < L.length),j < q + 1->L[j].size<=160 from fun j h hj => by
      by_cases e:j=q
      ·subst e; rw [hl9]; omega
      ·exact hall j h (by omega))
     clear hall hl9
     go_wp2_with fail
     go_round
     case rel => exact ⟨q + 1,by go_num,by omega,HAll.out⟩
     case measure => simp [intOf]; omega
   ·have hno:¬ LongL L:=fun ⟨j,hj,hlg⟩ => by
     have:=hall j hj (by have:=HN.out; omega)
     omega
    obtain ⟨rfl,_⟩:=HCase.out.resolve_right hno
    obtain ⟨rfl,rfl⟩:=HC2.out.resolve_right hno
    clear hno hall
    go_wp2_with fail
    go_ret
    exact ⟨rfl,HBE.out⟩
end Go.Proofs.YtjhhmdmmllblhaaGreatDoor.textTurned
