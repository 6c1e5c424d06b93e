/- TxPage TxLines TxAdd: what these laws name of them. -/
import Derived.Test.YtjhhmdmmllblhaaGreatDoorKt23
namespace Go.Proofs.YtjhhmdmmllblhaaGreatDoor
set_option linter.unusedVariables false
namespace TxG
open Go.RowKit
open ValM LexM NumM ExM NmM ShowM PrM Kit ExL ExP ExN RawV Within RawL GenL FldP FldR FldC FrmM NmA PgM PgA ShT TxM TxR TxP TxT Prn TxQ TxW TxN TxF PsR PsD PsE PrU
set_option linter.unusedVariables false
def P6 (U:World) (B:Nat) (v0 v1 v2 v3 v4 v5:Value):World:=(((((U.setCell ⟨B,2,none⟩ v0).setCell ⟨B,3,none⟩ v1).setCell ⟨B,4,none⟩ v2).setCell ⟨B,5,none⟩ v3).setCell ⟨B,6,none⟩ v4).setCell ⟨B,7,none⟩ v5
theorem p6_heap (U:World) (B b:Nat) (h:b ≠ B) (v0 v1 v2 v3 v4 v5:Value):(P6 U B v0 v1 v2 v3 v4 v5).heap[b]?=U.heap[b]?:=by
 unfold P6
 rw [Below.heap_setCell _ ⟨B,7,none⟩ _ b h,Below.heap_setCell _ ⟨B,6,none⟩ _ b h,Below.heap_setCell _ ⟨B,5,none⟩ _ b h,Below.heap_setCell _ ⟨B,4,none⟩ _ b h,Below.heap_setCell _ ⟨B,3,none⟩ _ b h,Below.heap_setCell _ ⟨B,2,none⟩ _ b h]
theorem p6_box {U:World} {B:Nat} {c0 c1 c2 c3 c4 c5 c6 c7:Value} {t:TypeId} (h:U.heap[B]?=some (.cells #[c0,c1,c2,c3,c4,c5,c6,c7] t (0,0))) (v0 v1 v2 v3 v4 v5:Value):(P6 U B v0 v1 v2 v3 v4 v5).heap[B]?=some (.cells #[c0,c1,v0,v1,v2,v3,v4,v5] t (0,0)):=by
 unfold P6
 have e0:(U.setCell ⟨B,2,none⟩ v0).heap[B]?=some (.cells #[c0,c1,v0,c3,c4,c5,c6,c7] t (0,0)):=heap_setCell_same _ B 2 _ _ v0 h
 have e1:((U.setCell ⟨B,2,none⟩ v0).setCell ⟨B,3,none⟩ v1).heap[B]?=some (.cells #[c0,c1,v0,v1,c4,c5,c6,c7] t (0,0)):=heap_setCell_same _ B 3 _ _ v1 e0
 have e2:(((U.setCell ⟨B,2,none⟩ v0).setCell ⟨B,3,none⟩ v1).setCell ⟨B,4,none⟩ v2).heap[B]?=some (.cells #[c0,c1,v0,v1,v2,c5,c6,c7] t (0,0)):=heap_setCell_same _ B 4 _ _ v2 e1
 have e3:((((U.setCell ⟨B,2,none⟩ v0).setCell ⟨B,3,none⟩ v1).setCell ⟨B,4,none⟩ v2).setCell ⟨B,5,none⟩ v3).heap[B]?=some (.cells #[c0,c1,v0,v1,v2,v3,c6,c7] t (0,0)):=heap_setCell_same _ B 5 _ _ v3 e2
 have e4:(((((U.setCell ⟨B,2,none⟩ v0).setCell ⟨B,3,none⟩ v1).setCell ⟨B,4,none⟩ v2).setCell ⟨B,5,none⟩ v3).setCell ⟨B,6,none⟩ v4).heap[B]?=some (.cells #[c0,c1,v0,v1,v2,v3,v4,c7] t (0,0)):=heap_setCell_same _ B 6 _ _ v4 e3
 have e5:((((((U.setCell ⟨B,2,none⟩ v0).setCell ⟨B,3,none⟩ v1).setCell ⟨B,4,none⟩ v2).setCell ⟨B,5,none⟩ v3).setCell ⟨B,6,none⟩ v4).setCell ⟨B,7,none⟩ v5).heap[B]?=some (.cells #[c0,c1,v0,v1,v2,v3,v4,v5] t (0,0)):=heap_setCell_same _ B 7 _ _ v5 e4
 exact e5
theorem p6_below {w U:World} {B:Nat} (h:Below w.heap.size w U) (hB:w.heap.size<=B) (v0 v1 v2 v3 v4 v5:Value):Below w.heap.size w (P6 U B v0 v1 v2 v3 v4 v5):=by
 unfold P6
 exact ((((((h.setCell (p:=⟨B,2,none⟩) hB _).setCell (p:=⟨B,3,none⟩) hB _).setCell (p:=⟨B,4,none⟩) hB _).setCell (p:=⟨B,5,none⟩) hB _).setCell (p:=⟨B,6,none⟩) hB _).setCell (p:=⟨B,7,none⟩) hB _)
def zeroP:PE:=⟨⟨#[]⟩,[],none,0,noX,none,0,0⟩
def pgV (f:PE):Value:=.agg #[.string f.nm,.slice f.F f.fs.length f.fc,.int .i64 f.x.d.op,.int .i64 f.x.d.k,.int .i64 f.x.d.n,.string f.x.d.s,.string f.x.d.nm,.slice f.B f.m f.c]
structure PgBd (f:PE):Prop where
 nm:f.nm.size<=2000000
 len:f.fs.length<=1000001
 cap:f.fs.length<=f.fc/\f.fc<=maxLen
 txt:∀ s ∈ f.fs,s.size<=10
 nodes:f.x.nodes<=160
theorem zero_bds:PgBd zeroP:=⟨Nat.zero_le _,Nat.zero_le _,⟨Nat.zero_le _,Nat.zero_le _⟩,fun s hs => (by cases hs),by decide⟩
theorem zero_str (P:Nat->Prop) (w:World):StrP P w zeroP.F zeroP.fs:=fun j hj => absurd hj (Nat.not_lt_zero _)
def PageOut (l:List UInt8) (w:World) (e:Ending) (w':World):Prop :=
 ∃ (f:PE) (er:Int),e=.returned (.tuple #[pgV f,.int .i64 er])/\StrP (fun b => w.heap.size<=b) w' f.F f.fs/\IsP (fun b => w.heap.size<=b) w' f.x f.x.d f.B f.m/\(∀ pg,(rdLine pfR pg l).1=er)/\(er=0->∀ pg,(rdLine pfR pg l).2=some (.inr (plE f).1))/\PgBd f/\Below w.heap.size w w'
theorem rdp_plain {l nm:List UInt8} {ns:List (List UInt8)} (h:lineV l=.page nm ns none) (pg:Bool):rdLine pfR pg l=(0,some (.inr ⟨nm,ns,noX⟩)):=by unfold rdLine; rw [h]
theorem rdp_src_bad {l nm s:List UInt8} {ns:List (List UInt8)} {er:Int} {x:Ex} (h:lineV l=.page nm ns (some s)) (hp:pfR s=(x,er)) (he:er ≠ 0) (pg:Bool):rdLine pfR pg l=(er,none):=by
 unfold rdLine; rw [h]; simp only; rw [hp]; exact if_neg he
theorem rdp_src_ok {l nm s:List UInt8} {ns:List (List UInt8)} {x:Ex} (h:lineV l=.page nm ns (some s)) (hp:pfR s=(x,0)) (pg:Bool):rdLine pfR pg l=(0,some (.inr ⟨nm,ns,x⟩)):=by
 unfold rdLine; rw [h]; simp only; rw [hp]; rfl
theorem page_no {r:List UInt8} (h:cutO r coW=none):pageW r=.bad true:=by unfold pageW; rw [h]
theorem page_nm {r nm q:List UInt8} (h:cutO r coW=some (nm,q)) (hn:¬ nmB nm=true):pageW r=.bad true:=by unfold pageW; rw [h]; exact if_neg hn
theorem page_in {r nm q t:List UInt8} {so:Option (List UInt8)} (h:cutO r coW=some (nm,q)) (hn:nmB nm=true) (h1:((cutO q seW).map (·.1)).getD q=t) (h2:(cutO q seW).map (·.2)=so):pageW r=match namesR t with | none => .bad true | some ns => .page nm ns so:=by
 unfold pageW; rw [h]; simp only; rw [if_pos hn,h1,h2]; rfl
theorem names_bd {l:List UInt8} {L:List ByteArray} (h:namesR l=some (L.map fun t => t.data.toList)):∀ s ∈ L,s.size<=10:=fun s hs => by
 unfold namesR at h
 by_cases h0:l=[]
 ·rw [if_pos h0] at h
  injection h with h
  have:=List.map_eq_nil_iff.1 h.symm
  subst this; cases hs
 ·rw [if_neg h0] at h
  by_cases h1:(Lib.split l cmW).all nmB=true
  ·rw [if_pos h1] at h
   injection h with h
   rw [h] at h1
   exact (nmB_parts (List.all_eq_true.1 h1 _ (List.mem_map.2 ⟨s,hs,rfl⟩))).2.1
  ·rw [if_neg h1] at h; cases h
theorem own_cap {w:World} {base:Nat} {e:TypeId} {size:Nat} {A:Option Addr} {n c:Nat} {xs:List Value} (h:w.ownsRow base e size (.slice A n c) n xs):n<=c/\c<=maxLen:=by
 rcases h.2 with ⟨h1,h2⟩ | ⟨g,cap,cur,h1,_,_,h4,h5,_⟩
 ·injection h1 with _ _ h3
  subst h3; subst h2; exact ⟨Nat.le_refl _,Nat.zero_le _⟩
 ·injection h1 with _ _ h3
  subst h3; exact ⟨h4,h5⟩
theorem own_str {w:World} {base k:Nat} {v:Value} {l:List ByteArray} (h:w.ownsRow base 9 1 v k (NmA.strV l)) (hk:l.length=k):∃ A c,v=.slice A l.length c/\StrP (fun b => base<=b) w A l:=by
 subst hk
 rcases Nat.eq_zero_or_pos l.length with h0 | h0
 ·obtain ⟨A,c,e⟩:=GenL.own_slice h
  exact ⟨A,c,e,fun j hj => absurd hj (by omega)⟩
 ·obtain ⟨g,cap,e,hg,_,_,_,hc⟩:=GenL.own_form h h0
  refine ⟨_,cap,e,fun j hj => ⟨⟨g,0,none⟩,rfl,hg,?_⟩⟩
  unfold NmA.strV at hc
  rw [add_block,hc j (by omega),List.getElem?_map,List.getElem?_eq_getElem hj]; rfl
set_option maxRecDepth 100000 in
set_option maxHeartbeats 16000000 in
theorem readPage_any (s:ByteArray) (l:List UInt8) (w:World) (hs:s.size<=1000000) (hp:lineV l=pageW s.data.toList) (hv:RVars w):Calls Tryz.prog 38 #[.string s] w (PageOut l w):=by
 obtain ⟨W1,hW1⟩:∃ V,w.alloc (.cells #[.string ⟨#[]⟩,.slice none 0 0,.int .i64 0,.int .i64 0,.int .i64 0,.string ⟨#[]⟩,.string ⟨#[]⟩,.slice none 0 0] 50)=V:=⟨_,rfl⟩
 obtain ⟨R,hR⟩:∃ B,w.heap.size=B:=⟨_,rfl⟩
 have hb1:Below w.heap.size w W1:=by rw [← hW1]; exact b_new _ _
 have hk1:W1.heap[R]?=some (.cells #[.string ⟨#[]⟩,.slice none 0 0,.int .i64 0,.int .i64 0,.int .i64 0,.string ⟨#[]⟩,.string ⟨#[]⟩,.slice none 0 0] 50 (0,0)):=by rw [← hW1,← hR]; exact World.alloc_heap_new w _
 have hbox:∀ V,Below W1.heap.size W1 V->V.heap[R]?=some (.cells #[.string ⟨#[]⟩,.slice none 0 0,.int .i64 0,.int .i64 0,.int .i64 0,.string ⟨#[]⟩,.string ⟨#[]⟩,.slice none 0 0] 50 (0,0)):=fun V hV => (hV.block _ (Array.getElem?_eq_some_iff.1 hk1).1).trans hk1
 have hR1:R < W1.heap.size:=(Array.getElem?_eq_some_iff.1 hk1).1
 have hv1:=hv.below hb1
 have HW1:=Lib.hid hW1
 have HR:=Lib.hid hR
 have HB1:=Lib.hid hb1
 have HBox:=Lib.hid hbox
 have HV1:=Lib.hid hv1
 have HS:=Lib.hid hs
 have HR1:=Lib.hid hR1
 have HLp:=Lib.hid hp
 rcases cut_cases s ⟨#[58,32]⟩ (by decide) with hc | ⟨nm,r,hc,hlt,hal⟩
 ·have HBad:=Lib.hid (show lineV l=.bad true by rw [HLp.out]; exact page_no hc)
  have HCut:=Lib.hid (cut_none (w:=W1) (by omega) hv1.mx (by decide) hc)
  clear hW1 hR hb1 hbox hv1 hv hk1 hs hR1 hc hp
  go_enter Tryz.func38,Tryz.ntmps38
  go_upto_region 1 with fail
  rw [HW1.out,HR.out]
  go_wp2_with fail
  refine HCut.out.mono ?_; rintro e w2 ⟨rfl,n2,rfl⟩
  have hb2:=b_drewN (Below.refl W1.heap.size W1) n2
  have hk2:=HBox.out _ hb2
  have HB2:=Lib.hid (b_trans HB1.out hb2)
  clear hb2
  obtain ⟨j1,j2,j3⟩:=row_back (cs:=#[.string ⟨#[]⟩,.slice none 0 0,.int .i64 0,.int .i64 0,.int .i64 0,.string ⟨#[]⟩,.string ⟨#[]⟩,.slice none 0 0]) HB2.out (by rw [HR.out]; exact Nat.le_refl _) hk2
  have HJ1:=Lib.hid j1
  have HJ2:=Lib.hid j2
  clear j1 j2 j3
  go_wp2_with (first | (refine wpList_store_row rfl 50 _ _ rfl R #[.string ⟨#[]⟩,.slice none 0 0,.int .i64 0,.int .i64 0,.int .i64 0,.string ⟨#[]⟩,.string ⟨#[]⟩,.slice none 0 0] rfl rfl 50 _ hk2 (by kernel_rfl) rfl (by simp [Value.oneCell']) ?_))
  obtain ⟨y0,y1⟩:=row_cells HJ1.out
  refine bodyPost_ret (v:=.tuple #[.agg #[.string ⟨#[]⟩,.slice none 0 0,.int .i64 0,.int .i64 0,.int .i64 0,.string ⟨#[]⟩,.string ⟨#[]⟩,.slice none 0 0],.int .i64 3]) (by simp [results,Tryz.results38,go_sem,y0]) rfl ⟨zeroP,3,rfl,zero_str _ _,zero_isP _ _,fun pg => ?_,fun h => absurd h (by decide),zero_bds,HJ2.out⟩
  rw [rd_bad_line pg HBad.out]
 ·have hcut:=cut_some (w:=W1) (by omega) hv1.mx (by decide) hc
  have HCut:=Lib.hid hcut
  have hnm:=fun V => LexB.name_any nm V (by omega)
  have HC:=Lib.hid (show cutO s.data.toList coW=some (nm.data.toList,r.data.toList) from hc)
  have HSz:=Lib.hid (And.intro hlt hal)
  generalize hE:LexB.nameE nm.data.toList=E at hnm
  have HE:=Lib.hid hE
  have HNm:=Lib.hid hnm
  clear hW1 hR hb1 hbox hv1 hv hk1 hs hR1 hc hp hcut hnm hlt hal hE
  by_cases hEz:E=0
  ·have t3:(E != 0)=false:=by rw [hEz]; rfl
   have HNb:=Lib.hid (show nmB nm.data.toList=true from nm_zero.2 (HE.out.trans hEz))
   clear hEz
   obtain ⟨ls,src,comp,so,hcut,hh1,hh2,hso,hhs,hss⟩:∃ (ls src:ByteArray) (comp:Bool) (so:Option (List UInt8)),(∀ V,Below W1.heap.size W1 V->Calls Tryz.prog 59 #[.string r,.string ⟨#[59,32]⟩] V fun e w' => e=.returned (.tuple #[.string ls,.string src,.bool comp])/\∃ n,w'=V.drewN n) ∧
     ((cutO r.data.toList seW).map (·.1)).getD r.data.toList=ls.data.toList/\(cutO r.data.toList seW).map (·.2)=so/\(so=if comp=true then some src.data.toList else none)/\ls.size<=s.size/\src.size<=s.size:=by
    have h1:=HSz.out.1
    have h2:=HS.out
    rcases cut_cases r ⟨#[59,32]⟩ (by decide) with hc | ⟨a,q,hc,hlt,hal⟩
    ·have hc':cutO r.data.toList seW=none:=hc
     exact ⟨r,⟨#[]⟩,false,none,fun V hV => cut_none (by omega) (HV1.out.mx.below hV) (by decide) hc,by rw [hc']; rfl,by rw [hc']; rfl,rfl,by omega,Nat.zero_le _⟩
    ·have hc':cutO r.data.toList seW=some (a.data.toList,q.data.toList):=hc
     exact ⟨a,q,true,some q.data.toList,fun V hV => cut_some (by omega) (HV1.out.mx.below hV) (by decide) hc,by rw [hc']; rfl,by rw [hc']; rfl,rfl,by omega,by omega⟩
   have HCut2:=Lib.hid hcut
   have HLn:=Lib.hid (show lineV l=match namesR ls.data.toList with | none => .bad true | some ns => .page nm.data.toList ns so by rw [HLp.out]; exact page_in HC.out HNb.out hh1 hh2)
   have HSo:=Lib.hid hso
   have HSS:=Lib.hid (And.intro hhs hss)
   clear hcut hh1 hh2 hso hhs hss
   go_enter Tryz.func38,Tryz.ntmps38
   go_upto_region 1 with fail
   rw [HW1.out,HR.out]
   go_wp2_with fail
   refine HCut.out.mono ?_; rintro e w2 ⟨rfl,n2,rfl⟩
   go_wp2_with (go_at_call 49; refine (HNm.out _).mono ?_; rintro e wq ⟨rfl,rfl⟩)
   refine (HCut2.out _ (b_drewN (Below.refl _ _) n2)).mono ?_; rintro e w3 ⟨rfl,n3,rfl⟩
   have hb3:Below W1.heap.size W1 (W1.drewN (n2 + n3)):=b_drewN (Below.refl _ _) (n2 + n3)
   have hrn:=readNames_any ls (W1.drewN (n2 + n3)) (by have h1:=HSS.out.1; have h2:=HS.out; omega) (HV1.out.below hb3).mx
   have HRn:=Lib.hid hrn
   have HB3:=Lib.hid hb3
   clear hrn hb3
   go_wp2_with fail
   refine HRn.out.mono ?_; rintro e w4 ⟨⟨hno,rfl⟩ | ⟨v,L,hL,rfl,hown,hLl⟩,hb4⟩
   ·have HBad:=Lib.hid (show lineV l=.bad true by rw [HLn.out,hno])
    have hb14:Below W1.heap.size W1 w4:=HB3.out.trans hb4
    have hk4:=HBox.out _ hb14
    have HB4:=Lib.hid (b_trans HB1.out hb14)
    clear hb14 hb4 hno
    obtain ⟨j1,j2,j3⟩:=row_back (cs:=#[.string ⟨#[]⟩,.slice none 0 0,.int .i64 0,.int .i64 0,.int .i64 0,.string ⟨#[]⟩,.string ⟨#[]⟩,.slice none 0 0]) HB4.out (by rw [HR.out]; exact Nat.le_refl _) hk4
    have HJ1:=Lib.hid j1
    have HJ2:=Lib.hid j2
    clear j1 j2 j3
    go_wp2_with (first | (refine wpList_store_row rfl 50 _ _ rfl R #[.string ⟨#[]⟩,.slice none 0 0,.int .i64 0,.int .i64 0,.int .i64 0,.string ⟨#[]⟩,.string ⟨#[]⟩,.slice none 0 0] rfl rfl 50 _ hk4 (by kernel_rfl) rfl (by simp [Value.oneCell']) ?_))
    obtain ⟨y0,y1⟩:=row_cells HJ1.out
    refine bodyPost_ret (v:=.tuple #[.agg #[.string ⟨#[]⟩,.slice none 0 0,.int .i64 0,.int .i64 0,.int .i64 0,.string ⟨#[]⟩,.string ⟨#[]⟩,.slice none 0 0],.int .i64 3]) (by simp [results,Tryz.results38,go_sem,y0]) rfl ⟨zeroP,3,rfl,zero_str _ _,zero_isP _ _,fun pg => ?_,fun h => absurd h (by decide),zero_bds,HJ2.out⟩
    rw [rd_bad_line pg HBad.out]
   ·have hb14:Below W1.heap.size W1 w4:=HB3.out.trans hb4
    have hln:lineV l=.page nm.data.toList (L.map fun t => t.data.toList) so:=by rw [HLn.out,hL]
    obtain ⟨A,c,rfl,hstr⟩:=own_str (l:=L) hown rfl
    have hcap:=own_cap hown
    have hnb:=names_bd hL
    obtain ⟨W5,hW5⟩:∃ V,w4.alloc (.cells #[.string nm,.slice A L.length c,.int .i64 0,.int .i64 0,.int .i64 0,.string ⟨#[]⟩,.string ⟨#[]⟩,.slice none 0 0] 50)=V:=⟨_,rfl⟩
    obtain ⟨F,hF⟩:∃ F,w4.heap.size=F:=⟨_,rfl⟩
    have hb5:Below w4.heap.size w4 W5:=by rw [← hW5]; exact b_new _ _
    have hkF:W5.heap[F]?=some (.cells #[.string nm,.slice A L.length c,.int .i64 0,.int .i64 0,.int .i64 0,.string ⟨#[]⟩,.string ⟨#[]⟩,.slice none 0 0] 50 (0,0)):=by rw [← hW5,← hF]; exact World.alloc_heap_new w4 _
    have hbc:Below W1.heap.size W1 W5:=b_trans hb14 hb5
    have hFc:F < W5.heap.size:=(Array.getElem?_eq_some_iff.1 hkF).1
    have hRF:R < F:=by have h1:=HR1.out; have h2:=hb14.size; omega
    have hkc:=HBox.out W5 hbc
    have hstr5:StrP (fun b => W1.heap.size<=b/\b < w4.heap.size) W5 A L:=hstr.keep (fun b _ hl => hb5.block b hl) (fun b hb hl => ⟨hb,hl⟩)
    have hLs:L.length<=1000001:=by have h1:=HSS.out.1; have h2:=HS.out; omega
    have hwb:w.heap.size<=W1.heap.size:=HB1.out.size
    have hRne:∀ b,W1.heap.size<=b->w.heap.size<=b/\b ≠ R:=fun b hb => by have h1:=HR1.out; exact ⟨by omega,by omega⟩
    have HF:=Lib.hid hF
    have HW5:=Lib.hid hW5
    have HKF:=Lib.hid hkF
    have HKc:=Lib.hid hkc
    have HBc:=Lib.hid (b_trans HB1.out hbc)
    have HB1c:=Lib.hid hbc
    have HRF:=Lib.hid hRF
    have HLok:=Lib.hid hln
    have HStr:=Lib.hid hstr5
    have HCap:=Lib.hid hcap
    have HNb2:=Lib.hid hnb
    have HLs:=Lib.hid hLs
    have HRne:=Lib.hid hRne
    have HF4:=Lib.hid (show F=w4.heap.size from hF.symm)
    have HW14:=Lib.hid (show W1.heap.size<=w4.heap.size from hb14.size)
    clear hW5 hF hb5 hkF hbc hRF hkc hstr5 hLs hwb hln hstr hcap hnb hown hLl hL hb4 hb14 hRne HRn HCut2 HLn
    go_upto_region 8 with fail
    go_upto_region 9 with fail
    rw [HW5.out,HF.out]
    obtain ⟨x0,z0⟩:=row_cells HKF.out
    have HNz:=Lib.hid (show nm.size<=2000000 by have h1:=HSz.out.2; have h2:=HS.out; omega)
    cases comp with
    | false =>
     have hso:so=none:=by rw [HSo.out]; rfl
     have HLn2:=Lib.hid (show lineV l=.page nm.data.toList (L.map fun t => t.data.toList) none by rw [HLok.out,hso])
     have hkc:=HKc.out
     obtain ⟨j1,j2,j3⟩:=row_back (cs:=#[.string nm,.slice A L.length c,.int .i64 0,.int .i64 0,.int .i64 0,.string ⟨#[]⟩,.string ⟨#[]⟩,.slice none 0 0]) HBc.out (by rw [HR.out]; exact Nat.le_refl _) hkc
     have hst7:StrP (fun b => w.heap.size<=b) (W5.setRow R #[.string nm,.slice A L.length c,.int .i64 0,.int .i64 0,.int .i64 0,.string ⟨#[]⟩,.string ⟨#[]⟩,.slice none 0 0]) A L:=HStr.out.keep (fun b hb _ => j3 b (HRne.out b hb.1).2) (fun b hb _ => (HRne.out b hb.1).1)
     have HJ1:=Lib.hid j1
     have HJ2:=Lib.hid j2
     have HSt7:=Lib.hid hst7
     clear j1 j2 j3 hso hst7
     go_wp2_with (refine wpList_store_row rfl 50 _ _ rfl R #[.string nm,.slice A L.length c,.int .i64 0,.int .i64 0,.int .i64 0,.string ⟨#[]⟩,.string ⟨#[]⟩,.slice none 0 0] rfl rfl 50 _ hkc (by kernel_rfl) rfl (by simp [Value.oneCell']) ?_)
     obtain ⟨y0,y1⟩:=row_cells HJ1.out
     refine bodyPost_ret (v:=.tuple #[.agg #[.string nm,.slice A L.length c,.int .i64 0,.int .i64 0,.int .i64 0,.string ⟨#[]⟩,.string ⟨#[]⟩,.slice none 0 0],.int .i64 0]) (by simp [results,Tryz.results38,go_sem,y0]) rfl ⟨⟨nm,L,A,c,noX,none,0,0⟩,0,rfl,HSt7.out,zero_isP _ _,fun pg => ?_,fun _ pg => ?_,⟨HNz.out,HLs.out,HCap.out,HNb2.out,(show noX.nodes<=160 by decide)⟩,HJ2.out⟩
     ·rw [rdp_plain HLn2.out pg]
     ·rw [rdp_plain HLn2.out pg]; rfl
    | true =>
     have hso:so=some src.data.toList:=by rw [HSo.out]; rfl
     have HLn2:=Lib.hid (show lineV l=.page nm.data.toList (L.map fun t => t.data.toList) (some src.data.toList) by rw [HLok.out,hso])
     have hpa:=PsE.Parse_any src W5 (by have h1:=HSS.out.2; have h3:=HS.out; omega) (HV1.out.below HB1c.out).lx (HV1.out.below HB1c.out).pv (HV1.out.below HB1c.out).tv.pr.tab
     have HPa:=Lib.hid hpa
     clear hpa hso
     go_wp2_with fail
     refine HPa.out.mono ?_; rintro e w6 ⟨x,d,B,m,cp,a1,er,rfl,hix,hpr,hb6⟩
     have hd:d=x.d:=ExS.is_d hix.is
     have hpf:=pf_of hpr
     have hxn:=pr_nodes hpr
     obtain ⟨W7,hW7⟩:∃ V,w6.alloc (.cells #[.int .i64 d.op,.int .i64 d.k,.int .i64 d.n,.string d.s,.string d.nm,.slice B m cp] 45)=V:=⟨_,rfl⟩
     obtain ⟨XB,hXB⟩:∃ N,w6.heap.size=N:=⟨_,rfl⟩
     have hb7:Below w6.heap.size w6 W7:=by rw [← hW7]; exact b_new _ _
     have hk7:W7.heap[XB]?=some (.cells #[.int .i64 d.op,.int .i64 d.k,.int .i64 d.n,.string d.s,.string d.nm,.slice B m cp] 45 (0,0)):=by rw [← hW7,← hXB]; exact World.alloc_heap_new w6 _
     have hbc7:Below W5.heap.size W5 W7:=b_trans hb6 hb7
     have hkF7:=(hbc7.block F hFc).trans HKF.out
     have hkR7:=(hbc7.block R (by have:=HRF.out; omega)).trans HKc.out
     have hix7:=hix.below hb7
     have hst7:StrP (fun b => W1.heap.size<=b/\b < w4.heap.size) W7 A L:=HStr.out.keep (fun b _ hl => hbc7.block b hl) (fun b hb _ => hb)
     obtain ⟨u0,v0⟩:=row_cells hk7
     have hbw7:=b_trans HBc.out hbc7
     obtain ⟨xF,zF⟩:=row_cells hkF7
     have HXB:=Lib.hid hXB
     have HW7:=Lib.hid hW7
     have HIx:=Lib.hid hix7
     have HSt:=Lib.hid hst7
     have HPf:=Lib.hid hpf
     have HXn:=Lib.hid hxn
     have HD:=Lib.hid hd
     have HBw7:=Lib.hid hbw7
     have HKF7:=Lib.hid hkF7
     have HKR7:=Lib.hid hkR7
     have HFle:=Lib.hid (show w.heap.size<=W5.heap.size from HBc.out.size)
     have hXF:XB ≠ F:=by have h1:=hb6.size; omega
     clear hXB hW7 hix hix7 hpf hxn hd hbw7 hkF7 hb6 hb7 hk7 hpr hbc7 x0 z0 hst7
     by_cases her:er=0
     ·subst her
      obtain ⟨W8,hW8⟩:∃ V,P6 W7 F (.int .i64 d.op) (.int .i64 d.k) (.int .i64 d.n) (.string d.s) (.string d.nm) (.slice B m cp)=V:=⟨_,rfl⟩
      have hkF8:=p6_box HKF7.out (.int .i64 d.op) (.int .i64 d.k) (.int .i64 d.n) (.string d.s) (.string d.nm) (.slice B m cp)
      have hh8:=fun b (hb:b ≠ F) => p6_heap W7 F b hb (.int .i64 d.op) (.int .i64 d.k) (.int .i64 d.n) (.string d.s) (.string d.nm) (.slice B m cp)
      have hb8:=p6_below (B:=F) HBw7.out (by have h1:=HRF.out; have h2:=HR.out; omega) (.int .i64 d.op) (.int .i64 d.k) (.int .i64 d.n) (.string d.s) (.string d.nm) (.slice B m cp)
      rw [hW8] at hkF8 hh8 hb8
      have hkR8:=(hh8 R (by have:=HRF.out; omega)).trans HKR7.out
      have hix8:IsP (fun b => w.heap.size<=b/\b ≠ R) W8 x d B m:=IsP.keep (fun b hb _ => hh8 b (by have h1:W5.heap.size<=b:=hb; omega)) (fun b hb _ => by have h1:W5.heap.size<=b:=hb; have h2:=HFle.out; have h3:=HRF.out; exact ⟨by omega,by omega⟩) _ _ _ _ HIx.out
      have hst8:StrP (fun b => w.heap.size<=b/\b ≠ R) W8 A L:=HSt.out.keep (fun b hb _ => hh8 b (by have h1:=HF4.out; have h2:=hb.2; omega)) (fun b hb _ => HRne.out b hb.1)
      obtain ⟨j1,j2,j3⟩:=row_back (cs:=#[.string nm,.slice A L.length c,.int .i64 d.op,.int .i64 d.k,.int .i64 d.n,.string d.s,.string d.nm,.slice B m cp]) hb8 (by rw [HR.out]; exact Nat.le_refl _) hkR8
      have hix9:=isP_row (R:=R) (cs:=#[.string nm,.slice A L.length c,.int .i64 d.op,.int .i64 d.k,.int .i64 d.n,.string d.s,.string d.nm,.slice B m cp]) hix8 (fun b hb => hb.2)
      have hst9:StrP (fun b => w.heap.size<=b) (W8.setRow R #[.string nm,.slice A L.length c,.int .i64 d.op,.int .i64 d.k,.int .i64 d.n,.string d.s,.string d.nm,.slice B m cp]) A L:=hst8.keep (fun b hb _ => j3 b hb.2) (fun b hb _ => hb.1)
      have HJ1:=Lib.hid j1
      have HJ2:=Lib.hid j2
      have HIx9:=Lib.hid hix9
      have HSt9:=Lib.hid hst9
      have HW8:=Lib.hid hW8
      have HKF8:=Lib.hid hkF8
      have HKR8:=Lib.hid hkR8
      clear hW8 hkF8 hh8 hb8 hkR8 hix8 j1 j2 j3 hix9 hst8 hst9
      go_upto_region 12 with fail
      rw [HW7.out,HXB.out]
      go_upto_region 15 with fail
      unfold P6 at HW8
      rw [HW8.out]
      obtain ⟨x6,z6⟩:=row_cells HKF8.out
      have hkR8:=HKR8.out
      clear u0 v0 xF zF
      go_wp2_with (refine wpList_store_row rfl 50 _ _ rfl R #[.string nm,.slice A L.length c,.int .i64 d.op,.int .i64 d.k,.int .i64 d.n,.string d.s,.string d.nm,.slice B m cp] rfl rfl 50 _ hkR8 (by kernel_rfl) rfl (by simp [Value.oneCell']) ?_)
      obtain ⟨y0,y1⟩:=row_cells HJ1.out
      refine bodyPost_ret (v:=.tuple #[.agg #[.string nm,.slice A L.length c,.int .i64 d.op,.int .i64 d.k,.int .i64 d.n,.string d.s,.string d.nm,.slice B m cp],.int .i64 0]) (by simp [results,Tryz.results38,go_sem,y0]) rfl ⟨⟨nm,L,A,c,x,B,m,cp⟩,0,?_,HSt9.out,?_,fun pg => ?_,fun _ pg => ?_,⟨HNz.out,HLs.out,HCap.out,HNb2.out,HXn.out⟩,HJ2.out⟩
      ·rw [HD.out]; rfl
      ·rw [← HD.out]; exact IsP.keep (fun _ _ _ => rfl) (fun b hb _ => hb.1) _ _ _ _ HIx9.out
      ·rw [rdp_src_ok HLn2.out HPf.out pg]
      ·rw [rdp_src_ok HLn2.out HPf.out pg]; rfl
     ·have t5:(er != 0)=true:=bne_iff_ne.2 her
      have HEr:=Lib.hid her
      have hkR7:=HKR7.out
      clear her
      go_upto_region 12 with fail
      rw [HW7.out,HXB.out]
      obtain ⟨j1,j2,j3⟩:=row_back (cs:=#[.string ⟨#[]⟩,.slice none 0 0,.int .i64 0,.int .i64 0,.int .i64 0,.string ⟨#[]⟩,.string ⟨#[]⟩,.slice none 0 0]) HBw7.out (by rw [HR.out]; exact Nat.le_refl _) hkR7
      have HJ1:=Lib.hid j1
      have HJ2:=Lib.hid j2
      clear j1 j2 j3
      go_wp2_with (first | (refine wpList_store_row rfl 50 _ _ rfl R #[.string ⟨#[]⟩,.slice none 0 0,.int .i64 0,.int .i64 0,.int .i64 0,.string ⟨#[]⟩,.string ⟨#[]⟩,.slice none 0 0] rfl rfl 50 _ hkR7 (by kernel_rfl) rfl (by simp [Value.oneCell']) ?_))
      obtain ⟨y0,y1⟩:=row_cells HJ1.out
      refine bodyPost_ret (v:=.tuple #[.agg #[.string ⟨#[]⟩,.slice none 0 0,.int .i64 0,.int .i64 0,.int .i64 0,.string ⟨#[]⟩,.string ⟨#[]⟩,.slice none 0 0],.int .i64 er]) (by simp [results,Tryz.results38,go_sem,y0]) rfl ⟨zeroP,er,rfl,zero_str _ _,zero_isP _ _,fun pg => ?_,fun h => absurd h HEr.out,zero_bds,HJ2.out⟩
      rw [rdp_src_bad HLn2.out HPf.out HEr.out pg]
  ·have t3:(E != 0)=true:=bne_iff_ne.2 hEz
   have HBad:=Lib.hid (show lineV l=.bad true by rw [HLp.out]; exact page_nm HC.out (fun h => hEz (HE.out ▸ nm_zero.1 h)))
   clear hEz
   go_enter Tryz.func38,Tryz.ntmps38
   go_upto_region 1 with fail
   rw [HW1.out,HR.out]
   go_wp2_with fail
   refine HCut.out.mono ?_; rintro e w2 ⟨rfl,n2,rfl⟩
   have hb2:=b_drewN (Below.refl W1.heap.size W1) n2
   have hk2:=HBox.out _ hb2
   have HB2:=Lib.hid (b_trans HB1.out hb2)
   clear hb2
   obtain ⟨j1,j2,j3⟩:=row_back (cs:=#[.string ⟨#[]⟩,.slice none 0 0,.int .i64 0,.int .i64 0,.int .i64 0,.string ⟨#[]⟩,.string ⟨#[]⟩,.slice none 0 0]) HB2.out (by rw [HR.out]; exact Nat.le_refl _) hk2
   have HJ1:=Lib.hid j1
   have HJ2:=Lib.hid j2
   clear j1 j2 j3
   go_wp2_with (first | (refine wpList_store_row rfl 50 _ _ rfl R #[.string ⟨#[]⟩,.slice none 0 0,.int .i64 0,.int .i64 0,.int .i64 0,.string ⟨#[]⟩,.string ⟨#[]⟩,.slice none 0 0] rfl rfl 50 _ hk2 (by kernel_rfl) rfl (by simp [Value.oneCell']) ?_) | (go_at_call 49; refine (HNm.out _).mono ?_; rintro e wq ⟨rfl,rfl⟩))
   obtain ⟨y0,y1⟩:=row_cells HJ1.out
   refine bodyPost_ret (v:=.tuple #[.agg #[.string ⟨#[]⟩,.slice none 0 0,.int .i64 0,.int .i64 0,.int .i64 0,.string ⟨#[]⟩,.string ⟨#[]⟩,.slice none 0 0],.int .i64 3]) (by simp [results,Tryz.results38,go_sem,y0]) rfl ⟨zeroP,3,rfl,zero_str _ _,zero_isP _ _,fun pg => ?_,fun h => absurd h (by decide),zero_bds,HJ2.out⟩
   rw [rd_bad_line pg HBad.out]
end TxG
namespace TxL
open Go.RowKit
open ValM LexM NumM ExM NmM ShowM PrM Kit ExL ExP ExN RawV Within RawL GenL FldP FldR FldC FrmM NmA PgM PgA ShT TxM TxR TxP TxT Prn TxQ TxW TxN TxF TxG PsR PsD PsE PrU
set_option linter.unusedVariables false
theorem app_keep {V W6:World} {tmp:Obj} {o:Option Nat} (h:(V.alloc tmp).grownBy W6 o) {b:Nat} (hl:b < V.heap.size) (hne:some b ≠ o):W6.heap[b]?=V.heap[b]? :=
 (h.block b (by simp; omega) (fun e => hne e)).trans ((b_new V tmp).block b hl)
theorem g_below {w w1 w2:World} {o:Option Nat} (h:w.grownBy w1 o) (b:Below w1.heap.size w1 w2):w.grownBy w2 o :=
 ⟨b.os.trans h.os,b.tape.trans h.tape,b.output.trans h.output,Nat.le_trans h.size b.size,fun k hk hne => (b.block k (Nat.lt_of_lt_of_le hk h.size)).trans (h.block k hk hne)⟩
structure LnI (w:World) (B:Nat) (es:List FE) (ps:List PE) (u v:Value) (wr:World):Prop where
 ownF:wr.ownsRow w.heap.size 47 9 u es.length (feC es)
 ownP:wr.ownsRow w.heap.size 50 8 v ps.length (peC ps)
 ne:∀ g,u.ownBlock=some g->v.ownBlock ≠ some g
 isF:∀ e ∈ es,IsP (fun b => w.heap.size<=b/\some b ≠ u.ownBlock/\some b ≠ v.ownBlock) wr e.x e.x.d e.B e.m
 isP:∀ e ∈ ps,StrP (fun b => w.heap.size<=b/\some b ≠ u.ownBlock/\some b ≠ v.ownBlock) wr e.F e.fs/\IsP (fun b => w.heap.size<=b/\some b ≠ u.ownBlock/\some b ≠ v.ownBlock) wr e.x e.x.d e.B e.m
 bdF:∀ e ∈ es,e.nm.size<=2000000/\e.x.nodes<=160
 bdP:∀ e ∈ ps,PgBd e
 box:wr.heap[B]?=some (.cells #[u,v] 29 (0,0))
 lt:B < w.heap.size
 kp:w.grownBy wr (some B)
theorem LnI.start {w:World} {B:Nat} (hk:w.heap[B]?=some (.cells #[.slice none 0 0,.slice none 0 0] 29 (0,0))):LnI w B [] [] (.slice none 0 0) (.slice none 0 0) w :=
 ⟨World.ownsRow_nil _ _ _ _,World.ownsRow_nil _ _ _ _,fun g h => (by cases h),fun e h => (by cases h),fun e h => (by cases h),fun e h => (by cases h),fun e h => (by cases h),hk,(Array.getElem?_eq_some_iff.1 hk).1,⟨rfl,rfl,rfl,Nat.le_refl _,fun _ _ _ => rfl⟩⟩
theorem LnI.keep {w:World} {B:Nat} {es:List FE} {ps:List PE} {u v:Value} {wr w':World} (h:LnI w B es ps u v wr) (hb:Below wr.heap.size wr w'):LnI w B es ps u v w' :=
 ⟨own_below h.ownF hb,own_below h.ownP hb,h.ne,fun e he => (h.isF e he).below hb,fun e he => ⟨(h.isP e he).1.keep (fun b _ hl => hb.block b hl) (fun _ hp _ => hp),(h.isP e he).2.below hb⟩,h.bdF,h.bdP,(hb.block _ (Array.getElem?_eq_some_iff.1 h.box).1).trans h.box,h.lt,g_below h.kp hb⟩
theorem LnI.below {w0 w:World} {B:Nat} {es:List FE} {ps:List PE} {u v:Value} {wr:World} (h:LnI w B es ps u v wr) (hb:Below w0.heap.size w0 w) (hB:w0.heap.size<=B):Below w0.heap.size w0 wr :=
 hb.grown h.kp hb.size (fun k e => by injection e with e; omega)
theorem LnI.stepF {w:World} {B:Nat} {es:List FE} {ps:List PE} {u v:Value} {wr V W6:World} {e:FE} {gg cap:Nat} {tmp:Obj} (h:LnI w B es ps u v wr) (hb:Below wr.heap.size wr V) (hise:IsP (fun b => wr.heap.size<=b) V e.x e.x.d e.B e.m) (hbd:e.nm.size<=2000000/\e.x.nodes<=160)
  (hown6:W6.ownsRow w.heap.size 47 9 (.slice (some ⟨gg,0,none⟩) (es.length + 1) cap) (es.length + 1) (feC es ++ fdC e.fd)) (hgrow6:(V.alloc tmp).grownBy W6 u.ownBlock) (hat6:u.ownBlock=some gg ∨ gg=V.heap.size + 1) :
  LnI w B (es ++ [e]) ps (.slice (some ⟨gg,0,none⟩) (es.length + 1) cap) v (W6.setCell ⟨B,0,none⟩ (.slice (some ⟨gg,0,none⟩) (es.length + 1) cap))/\W6.heap[B]?=some (.cells #[u,v] 29 (0,0)):=by
 have hlt:=h.lt
 have hs5:wr.heap.size<=V.heap.size:=hb.size
 have hsw:=h.kp.size
 have hgg:w.heap.size<=gg:=(hown6.lt gg rfl).1
 have hge:Value.ownBlock (.slice (some ⟨gg,0,none⟩) (es.length + 1) cap)=some gg:=rfl
 have hou:∀ g,u.ownBlock=some g->w.heap.size<=g/\g < wr.heap.size:=fun g hg => h.ownF.lt g hg
 have hoo:∀ g,v.ownBlock=some g->w.heap.size<=g/\g < wr.heap.size:=fun g hg => h.ownP.lt g hg
 have f5:∀ b,b < V.heap.size->some b ≠ u.ownBlock->b ≠ B->(W6.setCell ⟨B,0,none⟩ (.slice (some ⟨gg,0,none⟩) (es.length + 1) cap)).heap[b]?=V.heap[b]?:=fun b hl hne hx =>
  (Below.heap_setCell W6 ⟨B,0,none⟩ _ b hx).trans (app_keep hgrow6 hl hne)
 have f0:∀ b,b < wr.heap.size->some b ≠ u.ownBlock->b ≠ B->(W6.setCell ⟨B,0,none⟩ (.slice (some ⟨gg,0,none⟩) (es.length + 1) cap)).heap[b]?=wr.heap[b]?:=fun b hl hne hx => (f5 b (by omega) hne hx).trans (hb.block b hl)
 have hBw:B < wr.heap.size:=(Array.getElem?_eq_some_iff.1 h.box).1
 have hBu:some B ≠ u.ownBlock:=fun e => by have:=(hou B e.symm).1; omega
 have hBo:some B ≠ v.ownBlock:=fun e => by have:=(hoo B e.symm).1; omega
 have hbox6:W6.heap[B]?=some (.cells #[u,v] 29 (0,0)):=((app_keep hgrow6 (by omega) hBu).trans (hb.block B hBw)).trans h.box
 have hne6:∀ g,v.ownBlock=some g->g ≠ gg:=fun g hg e => by
  rcases hat6 with hh | hh
  ·exact h.ne g (by rw [e]; exact hh) hg
  ·have:=(hoo g hg).2; omega
 have hPold:∀ b,(w.heap.size<=b/\some b ≠ u.ownBlock/\some b ≠ v.ownBlock)->b < wr.heap.size->(W6.setCell ⟨B,0,none⟩ (.slice (some ⟨gg,0,none⟩) (es.length + 1) cap)).heap[b]?=wr.heap[b]?:=fun b hp hl => f0 b hl hp.2.1 (by have:=hp.1; omega)
 have hQold:∀ b,(w.heap.size<=b/\some b ≠ u.ownBlock/\some b ≠ v.ownBlock)->b < wr.heap.size->(w.heap.size<=b/\some b ≠ Value.ownBlock (.slice (some ⟨gg,0,none⟩) (es.length + 1) cap)/\some b ≠ v.ownBlock):=fun b hp hl => by
  refine ⟨hp.1,fun e => ?_,hp.2.2⟩
  rw [hge] at e
  injection e with e
  rcases hat6 with hh | hh
  ·exact hp.2.1 (by rw [hh,e])
  ·omega
 have hPnew:∀ b,wr.heap.size<=b->b < V.heap.size->(W6.setCell ⟨B,0,none⟩ (.slice (some ⟨gg,0,none⟩) (es.length + 1) cap)).heap[b]?=V.heap[b]?:=fun b hp hl => f5 b hl (fun e => by have:=(hou b e.symm).2; omega) (by omega)
 have hQnew:∀ b,wr.heap.size<=b->b < V.heap.size->(w.heap.size<=b/\some b ≠ Value.ownBlock (.slice (some ⟨gg,0,none⟩) (es.length + 1) cap)/\some b ≠ v.ownBlock):=fun b hp hl => by
  refine ⟨by omega,fun e => ?_,fun e => by have:=(hoo b e.symm).2; omega⟩
  rw [hge] at e
  injection e with e
  rcases hat6 with hh | hh
  ·have:=(hou gg hh).2; omega
  ·omega
 have hown7:(W6.setCell ⟨B,0,none⟩ (.slice (some ⟨gg,0,none⟩) (es.length + 1) cap)).ownsRow w.heap.size 47 9 (.slice (some ⟨gg,0,none⟩) (es.length + 1) cap) (es.length + 1) (feC es ++ fdC e.fd):=by
  refine World.ownsRow.kept (row:=some B) hown6 ⟨rfl,rfl,rfl,by simp [World.setCell],fun k _ hk => Below.heap_setCell _ _ _ k (fun e => hk (by rw [e]))⟩ (.inr ?_)
  rw [hge]; intro e; injection e with e; omega
 have hother:(W6.setCell ⟨B,0,none⟩ (.slice (some ⟨gg,0,none⟩) (es.length + 1) cap)).ownsRow w.heap.size 50 8 v ps.length (peC ps):=by
  have h1:=own_below h.ownP hb
  have h2:=h1.alloc tmp
  have h3:=World.ownsRow.kept h2 hgrow6 (by
   cases ho:v.ownBlock with
   | none => exact .inl rfl
   | some g =>
    right
    intro e
    exact h.ne g e.symm ho)
  refine World.ownsRow.kept (row:=some B) h3 ⟨rfl,rfl,rfl,by simp [World.setCell],fun k _ hk => Below.heap_setCell _ _ _ k (fun e => hk (by rw [e]))⟩ ?_
  cases ho:v.ownBlock with
  | none => exact .inl rfl
  | some g => right; intro e; injection e with e; have:=(hoo g ho).1; omega
 refine ⟨⟨?_,?_,?_,?_,?_,?_,?_,?_,h.lt,?_⟩,hbox6⟩
 ·rw [feC_snoc]; simpa using hown7
 ·exact hother
 ·intro g hg e; rw [hge] at hg; injection hg with hg; exact hne6 g e hg.symm
 ·intro q hq
  rcases List.mem_append.1 hq with hq | hq
  ·exact IsP.keep (fun b hp hl => hPold b hp hl) (fun b hp hl => ⟨(hQold b hp hl).1,(hQold b hp hl).2.1,(hQold b hp hl).2.2⟩) _ _ _ _ (h.isF q hq)
  ·simp at hq; subst hq
   exact IsP.keep (fun b hp hl => hPnew b hp hl) (fun b hp hl => ⟨(hQnew b hp hl).1,(hQnew b hp hl).2.1,(hQnew b hp hl).2.2⟩) _ _ _ _ hise
 ·exact fun q hq => ⟨(h.isP q hq).1.keep (fun b hp hl => hPold b hp hl) (fun b hp hl => ⟨(hQold b hp hl).1,(hQold b hp hl).2.1,(hQold b hp hl).2.2⟩),IsP.keep (fun b hp hl => hPold b hp hl) (fun b hp hl => ⟨(hQold b hp hl).1,(hQold b hp hl).2.1,(hQold b hp hl).2.2⟩) _ _ _ _ (h.isP q hq).2⟩
 ·intro q hq
  rcases List.mem_append.1 hq with hq | hq
  ·exact h.bdF q hq
  ·simp at hq; subst hq; exact hbd
 ·exact h.bdP
 ·simp [World.setCell,Array.getElem?_modify,hbox6]
 ·have hk:=h.kp
  refine ⟨?_,?_,?_,?_,fun b hl hne => ?_⟩
  ·exact hgrow6.os.trans (hb.os.trans hk.os)
  ·exact hgrow6.tape.trans (hb.tape.trans hk.tape)
  ·exact hgrow6.output.trans (hb.output.trans hk.output)
  ·have h2:=hgrow6.size
   simp [World.setCell] at h2 ⊢; omega
  ·exact (f0 b (by omega) (fun e => by have:=(hou b e.symm).1; omega) (fun e => hne (by rw [e]))).trans (hk.block b hl hne)
theorem LnI.stepP {w:World} {B:Nat} {es:List FE} {ps:List PE} {u v:Value} {wr V W6:World} {e:PE} {gg cap:Nat} {tmp:Obj} (h:LnI w B es ps u v wr) (hb:Below wr.heap.size wr V) (hise:IsP (fun b => wr.heap.size<=b) V e.x e.x.d e.B e.m) (hstr:StrP (fun b => wr.heap.size<=b) V e.F e.fs) (hbd:PgBd e)
  (hown6:W6.ownsRow w.heap.size 50 8 (.slice (some ⟨gg,0,none⟩) (ps.length + 1) cap) (ps.length + 1) (peC ps ++ pgC e)) (hgrow6:(V.alloc tmp).grownBy W6 v.ownBlock) (hat6:v.ownBlock=some gg ∨ gg=V.heap.size + 1) :
  LnI w B es (ps ++ [e]) u (.slice (some ⟨gg,0,none⟩) (ps.length + 1) cap) (W6.setCell ⟨B,1,none⟩ (.slice (some ⟨gg,0,none⟩) (ps.length + 1) cap))/\W6.heap[B]?=some (.cells #[u,v] 29 (0,0)):=by
 have hlt:=h.lt
 have hs5:wr.heap.size<=V.heap.size:=hb.size
 have hsw:=h.kp.size
 have hgg:w.heap.size<=gg:=(hown6.lt gg rfl).1
 have hge:Value.ownBlock (.slice (some ⟨gg,0,none⟩) (ps.length + 1) cap)=some gg:=rfl
 have hou:∀ g,v.ownBlock=some g->w.heap.size<=g/\g < wr.heap.size:=fun g hg => h.ownP.lt g hg
 have hoo:∀ g,u.ownBlock=some g->w.heap.size<=g/\g < wr.heap.size:=fun g hg => h.ownF.lt g hg
 have f5:∀ b,b < V.heap.size->some b ≠ v.ownBlock->b ≠ B->(W6.setCell ⟨B,1,none⟩ (.slice (some ⟨gg,0,none⟩) (ps.length + 1) cap)).heap[b]?=V.heap[b]?:=fun b hl hne hx =>
  (Below.heap_setCell W6 ⟨B,1,none⟩ _ b hx).trans (app_keep hgrow6 hl hne)
 have f0:∀ b,b < wr.heap.size->some b ≠ v.ownBlock->b ≠ B->(W6.setCell ⟨B,1,none⟩ (.slice (some ⟨gg,0,none⟩) (ps.length + 1) cap)).heap[b]?=wr.heap[b]?:=fun b hl hne hx => (f5 b (by omega) hne hx).trans (hb.block b hl)
 have hBw:B < wr.heap.size:=(Array.getElem?_eq_some_iff.1 h.box).1
 have hBu:some B ≠ v.ownBlock:=fun e => by have:=(hou B e.symm).1; omega
 have hBo:some B ≠ u.ownBlock:=fun e => by have:=(hoo B e.symm).1; omega
 have hbox6:W6.heap[B]?=some (.cells #[u,v] 29 (0,0)):=((app_keep hgrow6 (by omega) hBu).trans (hb.block B hBw)).trans h.box
 have hne6:∀ g,u.ownBlock=some g->g ≠ gg:=fun g hg e => by
  rcases hat6 with hh | hh
  ·exact h.ne g hg (by rw [e]; exact hh)
  ·have:=(hoo g hg).2; omega
 have hPold:∀ b,(w.heap.size<=b/\some b ≠ u.ownBlock/\some b ≠ v.ownBlock)->b < wr.heap.size->(W6.setCell ⟨B,1,none⟩ (.slice (some ⟨gg,0,none⟩) (ps.length + 1) cap)).heap[b]?=wr.heap[b]?:=fun b hp hl => f0 b hl hp.2.2 (by have:=hp.1; omega)
 have hQold:∀ b,(w.heap.size<=b/\some b ≠ u.ownBlock/\some b ≠ v.ownBlock)->b < wr.heap.size->(w.heap.size<=b/\some b ≠ Value.ownBlock (.slice (some ⟨gg,0,none⟩) (ps.length + 1) cap)/\some b ≠ u.ownBlock):=fun b hp hl => by
  refine ⟨hp.1,fun e => ?_,hp.2.1⟩
  rw [hge] at e
  injection e with e
  rcases hat6 with hh | hh
  ·exact hp.2.2 (by rw [hh,e])
  ·omega
 have hPnew:∀ b,wr.heap.size<=b->b < V.heap.size->(W6.setCell ⟨B,1,none⟩ (.slice (some ⟨gg,0,none⟩) (ps.length + 1) cap)).heap[b]?=V.heap[b]?:=fun b hp hl => f5 b hl (fun e => by have:=(hou b e.symm).2; omega) (by omega)
 have hQnew:∀ b,wr.heap.size<=b->b < V.heap.size->(w.heap.size<=b/\some b ≠ Value.ownBlock (.slice (some ⟨gg,0,none⟩) (ps.length + 1) cap)/\some b ≠ u.ownBlock):=fun b hp hl => by
  refine ⟨by omega,fun e => ?_,fun e => by have:=(hoo b e.symm).2; omega⟩
  rw [hge] at e
  injection e with e
  rcases hat6 with hh | hh
  ·have:=(hou gg hh).2; omega
  ·omega
 have hown7:(W6.setCell ⟨B,1,none⟩ (.slice (some ⟨gg,0,none⟩) (ps.length + 1) cap)).ownsRow w.heap.size 50 8 (.slice (some ⟨gg,0,none⟩) (ps.length + 1) cap) (ps.length + 1) (peC ps ++ pgC e):=by
  refine World.ownsRow.kept (row:=some B) hown6 ⟨rfl,rfl,rfl,by simp [World.setCell],fun k _ hk => Below.heap_setCell _ _ _ k (fun e => hk (by rw [e]))⟩ (.inr ?_)
  rw [hge]; intro e; injection e with e; omega
 have hother:(W6.setCell ⟨B,1,none⟩ (.slice (some ⟨gg,0,none⟩) (ps.length + 1) cap)).ownsRow w.heap.size 47 9 u es.length (feC es):=by
  have h1:=own_below h.ownF hb
  have h2:=h1.alloc tmp
  have h3:=World.ownsRow.kept h2 hgrow6 (by
   cases ho:u.ownBlock with
   | none => exact .inl rfl
   | some g =>
    right
    intro e
    exact h.ne g ho e.symm)
  refine World.ownsRow.kept (row:=some B) h3 ⟨rfl,rfl,rfl,by simp [World.setCell],fun k _ hk => Below.heap_setCell _ _ _ k (fun e => hk (by rw [e]))⟩ ?_
  cases ho:u.ownBlock with
  | none => exact .inl rfl
  | some g => right; intro e; injection e with e; have:=(hoo g ho).1; omega
 refine ⟨⟨?_,?_,?_,?_,?_,?_,?_,?_,h.lt,?_⟩,hbox6⟩
 ·exact hother
 ·rw [peC_snoc]; simpa using hown7
 ·intro g hg e; rw [hge] at e; injection e with e; exact hne6 g hg e.symm
 ·exact fun q hq => IsP.keep (fun b hp hl => hPold b hp hl) (fun b hp hl => ⟨(hQold b hp hl).1,(hQold b hp hl).2.2,(hQold b hp hl).2.1⟩) _ _ _ _ (h.isF q hq)
 ·intro q hq
  rcases List.mem_append.1 hq with hq | hq
  ·exact ⟨(h.isP q hq).1.keep (fun b hp hl => hPold b hp hl) (fun b hp hl => ⟨(hQold b hp hl).1,(hQold b hp hl).2.2,(hQold b hp hl).2.1⟩),IsP.keep (fun b hp hl => hPold b hp hl) (fun b hp hl => ⟨(hQold b hp hl).1,(hQold b hp hl).2.2,(hQold b hp hl).2.1⟩) _ _ _ _ (h.isP q hq).2⟩
  ·simp at hq; subst hq
   exact ⟨hstr.keep (fun b hp hl => hPnew b hp hl) (fun b hp hl => ⟨(hQnew b hp hl).1,(hQnew b hp hl).2.2,(hQnew b hp hl).2.1⟩),IsP.keep (fun b hp hl => hPnew b hp hl) (fun b hp hl => ⟨(hQnew b hp hl).1,(hQnew b hp hl).2.2,(hQnew b hp hl).2.1⟩) _ _ _ _ hise⟩
 ·exact h.bdF
 ·intro q hq
  rcases List.mem_append.1 hq with hq | hq
  ·exact h.bdP q hq
  ·simp at hq; subst hq; exact hbd
 ·simp [World.setCell,Array.getElem?_modify,hbox6]
 ·have hk:=h.kp
  refine ⟨?_,?_,?_,?_,fun b hl hne => ?_⟩
  ·exact hgrow6.os.trans (hb.os.trans hk.os)
  ·exact hgrow6.tape.trans (hb.tape.trans hk.tape)
  ·exact hgrow6.output.trans (hb.output.trans hk.output)
  ·have h2:=hgrow6.size
   simp [World.setCell] at h2 ⊢; omega
  ·exact (f0 b (by omega) (fun e => by have:=(hou b e.symm).1; omega) (fun e => hne (by rw [e]))).trans (hk.block b hl hne)
end TxL
namespace TxD
open Go.RowKit
open ValM LexM NumM ExM NmM ShowM PrM Kit ExL ExP ExN RawV Within RawL GenL FldP FldR FldC FrmM NmA PgM PgA ShT TxM TxR TxP TxT Prn TxQ TxW TxN TxF TxG TxL PsR PsD PsE PrU
set_option linter.unusedVariables false
theorem infoFd:(Tryz.prog.info? 47).map (fun i => (i.zero,i.size,i.bytes))=some (some (.agg #[.string ⟨#[]⟩,.int .i64 0,.int .i64 0,.int .i64 0,.int .i64 0,.int .i64 0,.string ⟨#[]⟩,.string ⟨#[]⟩,.slice none 0 0]),9,112):=by kernel_rfl
theorem infoPg:(Tryz.prog.info? 50).map (fun i => (i.zero,i.size,i.bytes))=some (some (.agg #[.string ⟨#[]⟩,.slice none 0 0,.int .i64 0,.int .i64 0,.int .i64 0,.string ⟨#[]⟩,.string ⟨#[]⟩,.slice none 0 0]),8,120):=by kernel_rfl
theorem cutp_any (s p:ByteArray) (w:World):Calls Tryz.prog 37 #[.string s,.string p] w fun e w' => e=.returned (.tuple #[.string ⟨(Lib.trimPrefix s.data.toList p.data.toList).toArray⟩,.bool (Lib.hasPrefix s.data.toList p.data.toList)])/\w=w' :=
 (Tryz.strings_CutPrefix s p w).mono fun _ _ h => ⟨h.1,h.2.symm⟩
def pls (ps:List PE):List Pl:=ps.map fun p => (plE p).1
theorem field_or {l:List UInt8} (hp:¬ Lib.hasPrefix l pgW=true):(∃ nm k t src,lineV l=.field nm k t src) ∨ ∃ b,lineV l=.bad b:=by
 rw [fieldW_eq hp]
 unfold fieldW
 split
 ·split
  ·exact .inl ⟨_,_,_,_,rfl⟩
  ·exact .inr ⟨_,rfl⟩
 ·exact .inr ⟨_,rfl⟩
theorem rd_late {l:List UInt8} (hp:¬ Lib.hasPrefix l pgW=true):(rdLine pfR true l).1=if (rdLine pfR false l).1=0 then 3 else (rdLine pfR false l).1:=by
 rcases field_or hp with ⟨nm,k,t,src,h⟩ | ⟨b,h⟩
 ·unfold rdLine
  rw [h]
  cases src with
  | none => rfl
  | some s =>
   simp only
   by_cases h0:(pfR s).2=0
   ·simp [h0]
   ·simp [h0]
 ·rw [rd_bad_line true h,rd_bad_line false h]; rfl
def AddOut (w:World) (B:Nat) (es:List FE) (ps:List PE) (l:List UInt8) (e:Ending) (w':World):Prop :=
 ∃ (es':List FE) (ps':List PE) (u' v':Value) (er:Int),e=.returned (.int .i64 er)/\LnI w B es' ps' u' v' w'/\(rdLine pfR (decide (pls ps ≠ [])) l).1=er/\(er=0->(es'.map flE,pls ps')=addL (es.map flE,pls ps) (rdLine pfR (decide (pls ps ≠ [])) l).2)/\es'.length + ps'.length<=es.length + ps.length + 1
theorem trim_of {l p:List UInt8} (h:Lib.hasPrefix l p=true):Lib.trimPrefix l p=l.drop p.length:=by unfold Lib.trimPrefix; rw [h]; rfl
theorem trim_no {l p:List UInt8} (h:Lib.hasPrefix l p=false):Lib.trimPrefix l p=l:=by unfold Lib.trimPrefix; rw [h]; rfl
set_option maxRecDepth 100000 in
set_option maxHeartbeats 16000000 in
theorem addPage_any (l:ByteArray) (w:World) (B:Nat) (es:List FE) (ps:List PE) (u v:Value) (wr:World) (h:LnI w B es ps u v wr) (hl:l.size<=1000000) (hv:RVars wr) (hn:es.length + ps.length<=1000) (hp:Lib.hasPrefix l.data.toList pgW=true) :
  Calls Tryz.prog 21 #[.pointer (some ⟨B,0,none⟩),.string l] wr (AddOut w B es ps l.data.toList):=by
 obtain ⟨i0,hi,hz0,hz1,hz2⟩:=info_parts infoPg
 have hcp:=fun V => cutp_any l ⟨#[112,97,103,101,32]⟩ V
 have hp':Lib.hasPrefix l.data.toList (⟨#[112,97,103,101,32]⟩:ByteArray).data.toList=true:=hp
 simp only [trim_of hp',hp'] at hcp
 obtain ⟨rest,hr⟩:∃ r:ByteArray,(⟨(l.data.toList.drop (⟨#[112,97,103,101,32]⟩:ByteArray).data.toList.length).toArray⟩:ByteArray)=r:=⟨_,rfl⟩
 rw [hr] at hcp
 have hrl:rest.data.toList=l.data.toList.drop 5:=by rw [← hr]; rfl
 have hrp:=readPage_any rest l.data.toList wr (by show rest.data.toList.length<=_; rw [hrl,List.length_drop]; show l.size - 5<=_; omega) (by rw [hrl]; exact pageW_eq hp) hv
 have HCp:=Lib.hid hcp
 have HRp:=Lib.hid hrp
 clear hcp hp' hr hrl hrp hp hv
 go_enter Tryz.func21,Tryz.ntmps21
 go_wp2_with fail
 refine (HCp.out _).mono ?_; rintro e w1 ⟨rfl,rfl⟩
 go_wp2_with fail
 refine HRp.out.mono ?_; rintro e w2 ⟨f,er,rfl,hstr,hix,hrd,hok,hbd,hb2⟩
 have HRd:=Lib.hid hrd
 have HOk:=Lib.hid hok
 have HH:=Lib.hid h
 unfold pgV
 clear HCp HRp hrd hok
 go_upto_region 3 with fail
 obtain ⟨V,hV⟩:∃ V,w2.alloc (pgBox f)=V:=⟨_,rfl⟩
 obtain ⟨XB,hXB⟩:∃ N,w2.heap.size=N:=⟨_,rfl⟩
 have hbV:Below w2.heap.size w2 V:=by rw [← hV]; exact b_new _ _
 have hcl:=pg_cells w2 f
 rw [hV,hXB] at hcl
 have hcl0:=hcl
 clear hcl0
 have hwV:Below wr.heap.size wr V:=b_trans hb2 hbV
 have hkB:∀ W,Below V.heap.size V W->W.heap[B]?=some (.cells #[u,v] 29 (0,0)):=fun W hW => ((b_trans hwV hW).block B (Array.getElem?_eq_some_iff.1 h.box).1).trans h.box
 have hixV:=hix.below hbV
 have hstV:=hstr.keep (fun b _ hl => hbV.block b hl) (fun b hb _ => hb)
 have hown:=own_below h.ownP (b_trans hwV (b_drew (Below.refl _ _)))
 have htw:∀ (o:Obj) (gg cap:Nat) (w10:World),w10.ownsRow w.heap.size 50 8 (.slice (some ⟨gg,0,none⟩) (ps.length + 1) cap) (ps.length + 1) (peC ps ++ pgC f)->(V.drew.alloc o).grownBy w10 v.ownBlock->(v.ownBlock=some gg ∨ gg=V.heap.size + 1) →
   LnI w B es (ps ++ [f]) u (.slice (some ⟨gg,0,none⟩) (ps.length + 1) cap) (w10.setCell ⟨B,1,none⟩ (.slice (some ⟨gg,0,none⟩) (ps.length + 1) cap))/\w10.cell? ⟨B,0,none⟩=some u/\w10.cell? ⟨B,1,none⟩=some v/\w10.frozen? ⟨B,0,none⟩=false/\w10.frozen? ⟨B,1,none⟩=false:=fun o gg cap w10 ho hg hat => by
  have hs:=h.stepP (V:=V.drew) (e:=f) (b_drew hwV) (hixV.below (b_drew (Below.refl _ _))) (hstV.keep (fun _ _ _ => rfl) (fun _ hb _ => hb)) hbd ho hg hat
  obtain ⟨r0,r1⟩:=row_cells hs.2
  exact ⟨hs.1,by rw [r0]; rfl,by rw [r0]; rfl,r1 0,r1 1⟩
 have hsz:∀ o:Obj,w.heap.size<=(V.drew.alloc o).heap.size:=fun o => by have h1:=h.kp.size; have h2:=hwV.size; simp; omega
 obtain ⟨r0,r1⟩:=row_cells (hkB V (Below.refl _ _))
 have k0:V.cell? ⟨B,0,none⟩=some u:=by rw [r0]; rfl
 have k1:V.cell? ⟨B,1,none⟩=some v:=by rw [r0]; rfl
 have m0:V.frozen? ⟨B,0,none⟩=false:=r1 0
 have m1:V.frozen? ⟨B,1,none⟩=false:=r1 1
 have k0a:∀ o,(V.drew.alloc o).cell? ⟨B,0,none⟩=some u:=fun o => by rw [(row_cells (hkB _ (b_more (b_drew (Below.refl _ _)) o))).1]; rfl
 have k1a:∀ o,(V.drew.alloc o).cell? ⟨B,1,none⟩=some v:=fun o => by rw [(row_cells (hkB _ (b_more (b_drew (Below.refl _ _)) o))).1]; rfl
 have k0b:∀ o,(V.alloc o).drew.cell? ⟨B,0,none⟩=some u:=fun o => by rw [(row_cells (hkB _ (b_drew (b_new _ o)))).1]; rfl
 have k1b:∀ o,(V.alloc o).drew.cell? ⟨B,1,none⟩=some v:=fun o => by rw [(row_cells (hkB _ (b_drew (b_new _ o)))).1]; rfl
 obtain ⟨z0,z1,z2,z3,z4,z5,z6,z7⟩:=hcl V (Below.refl _ _)
 obtain ⟨A1,c1,rfl⟩:=GenL.own_slice h.ownP
 obtain ⟨nL,hnL⟩:∃ n,ps.length=n:=⟨_,rfl⟩
 obtain ⟨LL,hLL⟩:∃ l,peC ps=l:=⟨_,rfl⟩
 have hn1:nL<=1000:=by omega
 rw [hnL,hLL] at hown htw
 simp only [hnL] at k0 k1 k0a k1a k0b k1b
 have HOwn:=Lib.hid hown
 have HTw:=Lib.hid htw
 have HSz:=Lib.hid hsz
 have HV9:=Lib.hid hV
 have HXB:=Lib.hid hXB
 have HN:=Lib.hid hnL
 have HbV:=Lib.hid hwV
 clear hV hXB hbV hcl hwV hkB hixV hstV hown htw hsz r0 r1 hnL hLL
 unfold pgC at HTw
 unfold pgBox at HV9
 skip
 go_upto_region 4 with fail
 rw [HV9.out,HXB.out]
 go_cut [] (fun wx => ∃ gg cap,LnI w B es (ps ++ [f]) u (.slice (some ⟨gg,0,none⟩) (nL + 1) cap) wx)
 case first =>
  first | (go_region_law (first | (refine step_append_lies _ (by rfl) _ _ _ (by rfl) w.heap.size 50 i0 _ 8 120 Tryz.underlying27 hi hz0 hz1 hz2 rfl (by omega) (.slice A1 nL c1) nL LL (by rfl) (HOwn.out.alloc _) ⟨V.heap.size,0,none⟩ 1 1 [.string f.nm,.slice f.F f.fs.length f.fc,.int .i64 f.x.d.op,.int .i64 f.x.d.k,.int .i64 f.x.d.n,.string f.x.d.s,.string f.x.d.nm,.slice f.B f.m f.c] (by rfl) (by rfl) (World.news_of_block (cs:=#[.string f.nm,.slice f.F f.fs.length f.fc,.int .i64 f.x.d.op,.int .i64 f.x.d.k,.int .i64 f.x.d.n,.string f.x.d.s,.string f.x.d.nm,.slice f.B f.m f.c]) (t:=50) (fr:=(0,0)) (World.alloc_heap_new V.drew _)) (by simp [Value.oneCell']) (by omega) (by unfold maxLen; omega) (by omega) (HSz.out _) (V.heap.size + 1) (by simp) ?_; intro gg cap w10 hown10 hgrow10 hat10 hlt10; obtain ⟨hL10,n0,n1,g0,g1⟩:=HTw.out _ gg cap w10 hown10 hgrow10 hat10; have HL10:=Lib.hid hL10; clear hown10 hgrow10 hat10 hlt10 hL10) | (fail))) | (fail)
  all_goals (go_wp2_with fail; go_meet)
  all_goals exact ⟨_,_,HL10.out⟩
 case rest =>
  obtain ⟨gg,cap,hL⟩:=hcut
  have HL:=Lib.hid hL
  clear hL
  go_wp2_with fail
  go_ret
  refine ⟨es,ps ++ [f],u,_,er,rfl,HL.out,HRd.out _,fun h0 => ?_,by simp; omega⟩
  rw [HOk.out h0 _]
  unfold addL pls
  simp
set_option maxRecDepth 100000 in
set_option maxHeartbeats 16000000 in
theorem addField_any (l:ByteArray) (w:World) (B:Nat) (es:List FE) (ps:List PE) (u v:Value) (wr:World) (h:LnI w B es ps u v wr) (hl:l.size<=1000000) (hv:RVars wr) (hn:es.length + ps.length<=1000) (hp:¬ Lib.hasPrefix l.data.toList pgW=true) :
  Calls Tryz.prog 21 #[.pointer (some ⟨B,0,none⟩),.string l] wr (AddOut w B es ps l.data.toList):=by
 obtain ⟨i0,hi,hz0,hz1,hz2⟩:=info_parts infoFd
 have hcp:=fun V => cutp_any l ⟨#[112,97,103,101,32]⟩ V
 have hp':Lib.hasPrefix l.data.toList (⟨#[112,97,103,101,32]⟩:ByteArray).data.toList=false:=by simpa using hp
 simp only [trim_no hp',hp'] at hcp
 have hml:(⟨l.data.toList.toArray⟩:ByteArray)=l:=Lib.mk_data l
 rw [hml] at hcp
 have hrp:=readField_any l wr (by omega) hp hv
 have hlate:=rd_late hp
 have HLate:=Lib.hid hlate
 have HCp:=Lib.hid hcp
 have HRp:=Lib.hid hrp
 clear hcp hp' hml hrp hp hv hlate
 obtain ⟨A2,c2,rfl⟩:=GenL.own_slice h.ownP
 go_enter Tryz.func21,Tryz.ntmps21
 go_wp2_with fail
 refine (HCp.out _).mono ?_; rintro e w1 ⟨rfl,rfl⟩
 go_wp2_with fail
 refine HRp.out.mono ?_; rintro e w2 ⟨f,er,rfl,hix,hrd,hok,hb9,hnd,hb2⟩
 have hbd:=And.intro hb9 hnd
 have HRd:=Lib.hid hrd
 have HOk:=Lib.hid hok
 have HH:=Lib.hid h
 unfold fdV
 clear HCp HRp hrd hok hb9 hnd
 obtain ⟨pn,hpn⟩:∃ n,ps.length=n:=⟨_,rfl⟩
 obtain ⟨V,hV⟩:∃ V,w2.alloc (fdBox f.fd)=V:=⟨_,rfl⟩
 obtain ⟨XB,hXB⟩:∃ N,w2.heap.size=N:=⟨_,rfl⟩
 have hbV:Below w2.heap.size w2 V:=by rw [← hV]; exact b_new _ _
 have hcl:=fd_nine w2 f.fd
 rw [hV,hXB] at hcl
 unfold FE.fd at hcl
 simp only at hcl
 have hwV:Below wr.heap.size wr V:=b_trans hb2 hbV
 have hkB:∀ W,Below V.heap.size V W->W.heap[B]?=some (.cells #[u,.slice A2 ps.length c2] 29 (0,0)):=fun W hW => ((b_trans hwV hW).block B (Array.getElem?_eq_some_iff.1 h.box).1).trans h.box
 have hixV:=hix.below hbV
 have hstV:=hix
 have hown:=own_below h.ownF (b_trans hwV (b_drew (Below.refl _ _)))
 have htw:∀ (o:Obj) (gg cap:Nat) (w10:World),w10.ownsRow w.heap.size 47 9 (.slice (some ⟨gg,0,none⟩) (es.length + 1) cap) (es.length + 1) (feC es ++ fdC f.fd)->(V.drew.alloc o).grownBy w10 u.ownBlock->(u.ownBlock=some gg ∨ gg=V.heap.size + 1) →
   LnI w B (es ++ [f]) ps (.slice (some ⟨gg,0,none⟩) (es.length + 1) cap) (.slice A2 ps.length c2) (w10.setCell ⟨B,0,none⟩ (.slice (some ⟨gg,0,none⟩) (es.length + 1) cap))/\w10.cell? ⟨B,0,none⟩=some u/\w10.cell? ⟨B,1,none⟩=some (.slice A2 ps.length c2)/\w10.frozen? ⟨B,0,none⟩=false/\w10.frozen? ⟨B,1,none⟩=false:=fun o gg cap w10 ho hg hat => by
  have hs:=h.stepF (V:=V.drew) (e:=f) (b_drew hwV) (hixV.below (b_drew (Below.refl _ _))) hbd ho hg hat
  obtain ⟨r0,r1⟩:=row_cells hs.2
  exact ⟨hs.1,by rw [r0]; rfl,by rw [r0]; rfl,r1 0,r1 1⟩
 have hsz:∀ o:Obj,w.heap.size<=(V.drew.alloc o).heap.size:=fun o => by have h1:=h.kp.size; have h2:=hwV.size; simp; omega
 obtain ⟨r0,r1⟩:=row_cells (hkB V (Below.refl _ _))
 have k0:V.cell? ⟨B,0,none⟩=some u:=by rw [r0]; rfl
 have k1:V.cell? ⟨B,1,none⟩=some (.slice A2 ps.length c2):=by rw [r0]; rfl
 have m0:V.frozen? ⟨B,0,none⟩=false:=r1 0
 have m1:V.frozen? ⟨B,1,none⟩=false:=r1 1
 have k0a:∀ o,(V.drew.alloc o).cell? ⟨B,0,none⟩=some u:=fun o => by rw [(row_cells (hkB _ (b_more (b_drew (Below.refl _ _)) o))).1]; rfl
 have k1a:∀ o,(V.drew.alloc o).cell? ⟨B,1,none⟩=some (.slice A2 ps.length c2):=fun o => by rw [(row_cells (hkB _ (b_more (b_drew (Below.refl _ _)) o))).1]; rfl
 have k0b:∀ o,(V.alloc o).drew.cell? ⟨B,0,none⟩=some u:=fun o => by rw [(row_cells (hkB _ (b_drew (b_new _ o)))).1]; rfl
 have k1b:∀ o,(V.alloc o).drew.cell? ⟨B,1,none⟩=some (.slice A2 ps.length c2):=fun o => by rw [(row_cells (hkB _ (b_drew (b_new _ o)))).1]; rfl
 obtain ⟨z0,z1,z2,z3,z4,z5,z6,z7,z8⟩:=hcl V (Below.refl _ _)
 obtain ⟨A1,c1,rfl⟩:=GenL.own_slice h.ownF
 obtain ⟨nL,hnL⟩:∃ n,es.length=n:=⟨_,rfl⟩
 obtain ⟨LL,hLL⟩:∃ l,feC es=l:=⟨_,rfl⟩
 have hn1:nL<=1000:=by omega
 rw [hnL,hLL] at hown htw
 simp only [hnL] at k0 k1 k0a k1a k0b k1b
 have HOwn:=Lib.hid hown
 have HTw:=Lib.hid htw
 have HSz:=Lib.hid hsz
 have HV9:=Lib.hid hV
 have HXB:=Lib.hid hXB
 have HN:=Lib.hid hnL
 have HbV:=Lib.hid hwV
 clear hV hXB hbV hcl hwV hkB hixV hstV hown htw hsz r0 r1 hnL hLL
 unfold fdC FE.fd at HTw
 unfold fdBox FE.fd at HV9
 simp only at HTw HV9
 go_upto_region 7 with fail
 rw [HV9.out,HXB.out]
 rw [hpn] at k1 k1a k1b
 have HPn:=Lib.hid hpn
 clear hpn
 by_cases her:er=0
 ·have t1:(er == 0)=true:=beq_iff_eq.2 her
  by_cases hpz:pn=0
  ·have t2:¬ (0:Int) < (pn:Int):=by omega
   have HEr:=Lib.hid her
   have HPz:=Lib.hid hpz
   clear her hpz
   go_upto_region 9 with fail
   go_cut [] (fun wx => ∃ gg cap,LnI w B (es ++ [f]) ps (.slice (some ⟨gg,0,none⟩) (nL + 1) cap) (.slice A2 ps.length c2) wx)
   case first =>
    first | (go_region_law (first | (refine step_append_lies _ (by rfl) _ _ _ (by rfl) w.heap.size 47 i0 _ 9 112 Tryz.underlying26 hi hz0 hz1 hz2 rfl (by omega) (.slice A1 nL c1) nL LL (by rfl) (HOwn.out.alloc _) ⟨V.heap.size,0,none⟩ 1 1 [.string f.nm,.int .i64 f.kind,.int .i64 f.ty,.int .i64 f.x.d.op,.int .i64 f.x.d.k,.int .i64 f.x.d.n,.string f.x.d.s,.string f.x.d.nm,.slice f.B f.m f.c] (by rfl) (by rfl) (World.news_of_block (cs:=#[.string f.nm,.int .i64 f.kind,.int .i64 f.ty,.int .i64 f.x.d.op,.int .i64 f.x.d.k,.int .i64 f.x.d.n,.string f.x.d.s,.string f.x.d.nm,.slice f.B f.m f.c]) (t:=47) (fr:=(0,0)) (World.alloc_heap_new V.drew _)) (by simp [Value.oneCell']) (by omega) (by unfold maxLen; omega) (by omega) (HSz.out _) (V.heap.size + 1) (by simp) ?_; intro gg cap w10 hown10 hgrow10 hat10 hlt10; obtain ⟨hL10,n0,n1,g0,g1⟩:=HTw.out _ gg cap w10 hown10 hgrow10 hat10; have HL10:=Lib.hid hL10; clear hown10 hgrow10 hat10 hlt10 hL10) | (fail))) | (fail)
    all_goals (go_wp2_with fail; go_meet)
    all_goals exact ⟨_,_,HL10.out⟩
   case rest =>
    obtain ⟨gg,cap,hL⟩:=hcut
    have HL:=Lib.hid hL
    clear hL
    go_wp2_with fail
    go_ret
    have hpz:pls ps=[]:=by
     have h1:=HPz.out
     have h2:=HPn.out
     have h3:ps=[]:=List.eq_nil_of_length_eq_zero (by omega)
     rw [h3]; rfl
    refine ⟨es ++ [f],ps,_,_,er,rfl,HL.out,?_,fun h0 => ?_,by simp; omega⟩
    ·rw [hpz]; exact HRd.out
    ·rw [hpz]
     have:decide (([]:List Pl) ≠ [])=false:=rfl
     rw [this,HOk.out h0]
     unfold addL
     simp
  ·have t2:(0:Int) < (pn:Int):=by omega
   have HKeep:=Lib.hid (HH.out.keep (w':=V) HbV.out)
   have HEr:=Lib.hid her
   have HPz:=Lib.hid hpz
   clear her hpz
   go_wp2_with fail
   go_ret
   have hpz:decide (pls ps ≠ [])=true:=by
    have h1:=HPz.out
    have h2:=HPn.out
    rw [decide_eq_true_eq]
    intro e
    have:=congrArg List.length e
    unfold pls at this
    rw [List.length_map,h2] at this
    exact h1 this
   refine ⟨es,ps,_,_,3,rfl,HKeep.out,?_,fun h0 => absurd h0 (by decide),by omega⟩
   ·rw [hpz,HLate.out,HRd.out,HEr.out]; rfl
 ·have t1:(er == 0)=false:=beq_eq_false_iff_ne.2 her
  have HEr:=Lib.hid her
  clear her
  go_upto_region 9 with fail
  go_cut [] (fun wx => ∃ gg cap,LnI w B (es ++ [f]) ps (.slice (some ⟨gg,0,none⟩) (nL + 1) cap) (.slice A2 ps.length c2) wx)
  case first =>
   first | (go_region_law (first | (refine step_append_lies _ (by rfl) _ _ _ (by rfl) w.heap.size 47 i0 _ 9 112 Tryz.underlying26 hi hz0 hz1 hz2 rfl (by omega) (.slice A1 nL c1) nL LL (by rfl) (HOwn.out.alloc _) ⟨V.heap.size,0,none⟩ 1 1 [.string f.nm,.int .i64 f.kind,.int .i64 f.ty,.int .i64 f.x.d.op,.int .i64 f.x.d.k,.int .i64 f.x.d.n,.string f.x.d.s,.string f.x.d.nm,.slice f.B f.m f.c] (by rfl) (by rfl) (World.news_of_block (cs:=#[.string f.nm,.int .i64 f.kind,.int .i64 f.ty,.int .i64 f.x.d.op,.int .i64 f.x.d.k,.int .i64 f.x.d.n,.string f.x.d.s,.string f.x.d.nm,.slice f.B f.m f.c]) (t:=47) (fr:=(0,0)) (World.alloc_heap_new V.drew _)) (by simp [Value.oneCell']) (by omega) (by unfold maxLen; omega) (by omega) (HSz.out _) (V.heap.size + 1) (by simp) ?_; intro gg cap w10 hown10 hgrow10 hat10 hlt10; obtain ⟨hL10,n0,n1,g0,g1⟩:=HTw.out _ gg cap w10 hown10 hgrow10 hat10; have HL10:=Lib.hid hL10; clear hown10 hgrow10 hat10 hlt10 hL10) | (fail))) | (fail)
   all_goals (go_wp2_with fail; go_meet)
   all_goals exact ⟨_,_,HL10.out⟩
  case rest =>
   obtain ⟨gg,cap,hL⟩:=hcut
   have HL:=Lib.hid hL
   clear hL
   go_wp2_with fail
   go_ret
   refine ⟨es ++ [f],ps,_,_,er,rfl,HL.out,?_,fun h0 => absurd h0 HEr.out,by simp; omega⟩
   cases decide (pls ps ≠ []) with
   | false => exact HRd.out
   | true => rw [HLate.out,HRd.out,if_neg HEr.out]
end TxD
end Go.Proofs.YtjhhmdmmllblhaaGreatDoor
