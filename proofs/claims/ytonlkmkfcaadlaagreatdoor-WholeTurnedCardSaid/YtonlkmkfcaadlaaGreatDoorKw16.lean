/- RkOf Srt RkOrd WhForm WhIn ShLists Cyc RkLaw: what these laws name of them. -/
import Derived.Sort.Walk13a
import Derived.Test.YtonlkmkfcaadlaaGreatDoorKw15
set_option linter.unusedVariables false
namespace Go.Proofs.YtonlkmkfcaadlaaGreatDoor.RkL
end Go.Proofs.YtonlkmkfcaadlaaGreatDoor.RkL
namespace Go.Proofs.YtonlkmkfcaadlaaGreatDoor.RkO
open Go.RowKit
open ValM LexM NumM ExM NmM Kit ExL ExP ExN ExC RawV Within RawL GenL FldP FldR FldC NmO NmA NmI NmT NmR RkM RkA RkB RkC RkD
set_option linter.unusedVariables false
theorem nodup_bd:∀ (n:Nat) (l:List Nat),l.Nodup->(∀ x ∈ l,x < n)->l.length<=n
 | 0,l,_,h => by
  cases l with
  | nil => exact Nat.le_refl _
  | cons x l => exact absurd (h x (by simp)) (by omega)
 | n + 1,l,hd,h => by
  have h1:=nodup_bd n (l.erase n) (hd.erase n) (fun x hx => by
   have h2:=(hd.mem_erase_iff).1 hx
   have h3:=h x h2.2
   omega)
  by_cases hm:n ∈ l
  ·rw [List.length_erase_of_mem hm] at h1
   omega
  ·rw [List.erase_of_not_mem hm] at h1
   omega
def RankOk (ns:List (List Nat)) (w:World) (e:Ending) (w':World):Prop :=
 ∃ v,e=.returned (.tuple #[v,.slice none 0 0,.int .i64 0])/\w'.ownsRow w.heap.size 3 1 v ns.length (iV (rankF ns))/\Below w.heap.size w w'
theorem idx_none {r:List Int} (h:∀ i,i < r.length->rk r i ≠ -1):Lib.idxOf r (-1)=-1:=by
 have:=Lib.idxOf_miss r r.length (-1) fun j hj => h j hj
 rwa [List.take_length] at this
theorem index_any (r:List Int) (x:Int) (v:Value) (base:Nat) (w:World) (hl:r.length<=1048576) (h:w.ownsRow base 3 1 v r.length (iV r)):Calls Tryz.prog 68 #[v,.int .i64 x] w fun e w' => e=.returned (.int .i64 (Lib.idxOf r x))/\w=w':=by
 rcases Nat.eq_zero_or_pos r.length with h0 | h0
 ·obtain ⟨A,c,rfl,_⟩:=IRow.of_own h
  obtain rfl:r=[]:=List.eq_nil_of_length_eq_zero h0
  exact (Tryz.slices_Index_int_empty A c x w).mono fun e w' h => ⟨h.1,h.2.symm⟩
 ·obtain ⟨A,c,rfl,hr⟩:=IRow.of_own h
  obtain ⟨g,rfl,_⟩:=hr 0 h0
  have:=Tryz.slices_Index_int g 0 r.length c r x w (Nat.le_refl _) (by omega) (fun j hj => by
   obtain ⟨g',e,hc⟩:=hr j hj
   injection e with e; injection e with e _ _
   subst e
   rw [Nat.zero_add]; exact hc)
  rw [List.take_length] at this
  exact this.mono fun e w' h => ⟨h.1,h.2.symm⟩
set_option maxRecDepth 100000 in
set_option maxHeartbeats 4000000 in
theorem of_bad (fs:List GenL.Fd) (X:Nat->Ex) (FA:Option Addr) (fc:Nat) (w:World) (hm:fs.length<=1000000000000) (hf:Flds w FA fs) (hX:Forms w fs X) (hT:Tab w) (hcap:fs.length<=fc/\fc<=maxLen) (h0:checkF fs X ≠ 0) :
  Calls Tryz.prog 78 #[.slice FA fs.length fc] w fun e w' => e=.returned (.tuple #[.slice none 0 0,.slice none 0 0,.int .i64 (checkF fs X)])/\Below w.heap.size w w':=by
 have hc:=FldC.check_any fs X FA fc w hm hf hX hT hcap
 obtain ⟨R,hR⟩:∃ R,checkF fs X=R:=⟨_,rfl⟩
 rw [hR] at h0 hc ⊢
 have t1:(R != 0)=true:=bne_iff_ne.2 h0
 have HC:=Lib.hid hc
 clear hc hR hf hX hT h0
 go_enter Tryz.func78,Tryz.ntmps78
 go_wp2_with (go_at_call 104; refine HC.out.mono ?_; rintro e w1 ⟨rfl,hb⟩; have HB:=Lib.hid hb; clear hb)
 exact bodyPost_ret (v:=.tuple #[.slice none 0 0,.slice none 0 0,.int .i64 R]) (by simp [results,Tryz.results78,go_sem]) rfl ⟨rfl,HB.out⟩
set_option maxRecDepth 100000 in
set_option maxHeartbeats 4000000 in
theorem of_ok (fs:List GenL.Fd) (X:Nat->Ex) (FA:Option Addr) (fc:Nat) (w:World) (hm:fs.length<=14) (hf:Flds w FA fs) (hX:Forms w fs X) (hT:Tab w) (hcap:fs.length<=fc/\fc<=maxLen) (h0:checkF fs X=0) (hr:∀ i,i < fs.length->0<=rk (rankF (needsF fs X)) i) :
  Calls Tryz.prog 78 #[.slice FA fs.length fc] w (RankOk (needsF fs X) w):=by
 have hc:=FldC.check_any fs X FA fc w (Nat.le_trans hm (by decide)) hf hX hT hcap
 rw [h0] at hc
 clear h0
 have hd:∀ V:World,Below w.heap.size w V->Calls Tryz.prog 64 #[.slice FA fs.length fc] V (DirOut (needsF fs X) V):=fun V hV => direct_any fs X FA fc V hm (hf.below hV) (hX.below hV) (hT.below hV)
 have hok:=needsF_ok fs X hm
 have hnl:=needsF_len fs X
 obtain ⟨ns,hns⟩:∃ ns,needsF fs X=ns:=⟨_,rfl⟩
 rw [hns] at hd hok hnl hr ⊢
 have hix:Lib.idxOf (rankF ns) (-1)=-1:=idx_none fun i hi => by
  rw [rankF_len,hnl] at hi
  have:=hr i hi
  omega
 have HC:=Lib.hid hc
 have HD:=Lib.hid hd
 have HI:=Lib.hid hix
 have HNl:=Lib.hid hnl
 clear hnl hc hns hf hX hT hd hix hr
 go_enter Tryz.func78,Tryz.ntmps78
 go_wp2_with fail
 refine HC.out.mono ?_; rintro e w1 ⟨rfl,hb⟩
 have HB:=Lib.hid hb
 clear hb
 go_wp2_with fail
 refine (HD.out w1 HB.out).mono ?_; rintro e w2 ⟨A2,c2,rfl,hns2,hb2,-⟩
 have hrk:=ranked_any ns A2 c2 w2 hok hns2
 have HR:=Lib.hid hrk
 have HB2:=Lib.hid (b_trans HB.out hb2)
 clear hrk hns2 hb2
 go_wp2_with fail
 refine HR.out.mono ?_; rintro e w3 ⟨v3,rfl,hown3,hb3⟩
 have hown:=own_base hown3 HB2.out.size
 have HB3:=Lib.hid (b_trans HB2.out hb3)
 have hin:=index_any (rankF ns) (-1) v3 w.heap.size w3 (by rw [rankF_len,HNl.out]; omega) (by rw [rankF_len]; exact hown)
 rw [HI.out] at hin
 have HIn:=Lib.hid hin
 have HO:=Lib.hid hown
 clear hb3 hown3 hin hown
 go_wp2_with fail
 refine HIn.out.mono ?_; rintro e w4 ⟨rfl,rfl⟩
 go_wp2_with fail
 exact bodyPost_ret (v:=.tuple #[v3,.slice none 0 0,.int .i64 0]) (by simp [results,Tryz.results78,go_sem]) rfl ⟨v3,rfl,HO.out,HB3.out⟩
end Go.Proofs.YtonlkmkfcaadlaaGreatDoor.RkO
namespace Go.Proofs
open Go.Shelf
def Tryz.ins_ren:Go.Shelf.Ren:=⟨fun | 20 => 136 | n => n,fun | 24 => 3 | 22 => 69 | 3 => 3 | 25 => 49 | 4 => 4 | 0 => 0 | n => n,fun | n => n⟩
theorem Tryz.ins:Go.Proofs.SlLaysF.n20 Tryz.prog Tryz.ins_ren:={
 mixed:=by kernel_rfl
 f20:=⟨Tryz.f136.name,by decide,Tryz.func136.trans (congrArg some (by kernel_rfl))⟩
 t0:=Tryz.underlying0
 a0:=Tryz.isAgg0
 z0:=Tryz.sizeOf0
 v0:=Tryz.zeroValue0
 t3:=Tryz.underlying3
 a3:=Tryz.isAgg3
 z3:=Tryz.sizeOf3
 v3:=Tryz.zeroValue3
 t4:=Tryz.underlying4
 a4:=Tryz.isAgg4
 z4:=Tryz.sizeOf4
 v4:=Tryz.zeroValue4
 t22:=Tryz.underlying69
 a22:=Tryz.isAgg69
 z22:=Tryz.sizeOf69
 v22:=Tryz.zeroValue69
 a24:=Tryz.isAgg3
 z24:=Tryz.sizeOf3
 t25:=Tryz.underlying49
 a25:=Tryz.isAgg49
 z25:=Tryz.sizeOf49
 v25:=Tryz.zeroValue49 }
open Go.RowKit Go.Sort Go.Lib in
theorem Tryz.insertionSortCmpFunc {α:Type} [Inhabited α] (enc:α->Value) (hO:OneCell enc) (cf:α->α->Int) (g:Nat) (cb:Array Value) (blk off cap a b:Nat) (d:Array α) (w:World) (eg:∀ args w,(callFunc g args).run Tryz.prog w=.ok (.enter g args) w) (hcmp:CmpReads Tryz.prog g cb enc cf blk off d.size w) (hH:Holds enc w blk off d) (hab:a<=b) (hb:b<=d.size) (hsz:d.size < 4611686018427387904):Calls Tryz.prog 136 #[.slice (some ⟨blk,off,none⟩) d.size cap,.int .i64 a,.int .i64 b,.func (.func g) #[] cb] w fun e w' => e=.returned (.tuple #[])/\∃ n,w'=(putRow enc w blk off (Sort.insertionSort (ltOf cf) d a b)).drewN n:=Any.insertionSortCmpFunc_one Tryz.ins enc hO cf g cb blk off cap a b d w eg hcmp hH hab hb hsz
end Go.Proofs
namespace Go.Proofs.YtonlkmkfcaadlaaGreatDoor.RkT
open Go.RowKit Go.Sort
open Kit RkM RkA RkB RkC
set_option linter.unusedVariables false
theorem swp_at {α:Type} [Inhabited α] (d:Array α) (i j k:Nat) (hi:i < d.size) (hj:j < d.size) (hij:i ≠ j) (hk:k < d.size):(swp d i j)[k]! =if k=j then d[i]! else if k=i then d[j]! else d[k]!:=by
 unfold swp
 by_cases h1:k=j
 ·subst h1; rw [if_pos rfl,getElem!_set_same _ _ _ (by simpa using hj)]
 ·rw [if_neg h1,getElem!_set_other _ _ _ _ h1]
  by_cases h2:k=i
  ·subst h2; rw [if_pos rfl,getElem!_set_same _ _ _ hi]
  ·rw [if_neg h2,getElem!_set_other _ _ _ _ h2]
theorem swp_sz {α:Type} [Inhabited α] (d:Array α) (i j:Nat):(swp d i j).size=d.size:=by unfold swp; simp
def St {n:Nat} (r:List Int) (d:Array (Fin n)) [Inhabited (Fin n)]:Prop:=∀ i j,i < j->j < d.size->rk r (d[i]!).val=rk r (d[j]!).val->(d[i]!).val < (d[j]!).val
def ltR {n:Nat} (r:List Int) (x y:Fin n):Bool:=decide (rk r x.val < rk r y.val)
theorem swp_st {n:Nat} [Inhabited (Fin n)] {r:List Int} {d:Array (Fin n)} (h:St r d) {j:Nat} (hj:j + 1 < d.size) (hl:rk r (d[j + 1]!).val < rk r (d[j]!).val):St r (swp d (j + 1) j):=fun a b hab hb he => by
 rw [swp_sz] at hb
 have e:∀ k,k < d.size->(swp d (j + 1) j)[k]! =if k=j then d[j + 1]! else if k=j + 1 then d[j]! else d[k]!:=fun k hk => swp_at d (j + 1) j k hj (by omega) (by omega) hk
 rw [e a (by omega),e b hb] at he ⊢
 by_cases a1:a=j
 ·rw [if_pos a1] at he ⊢
  by_cases b1:b=j + 1
  ·rw [if_neg (by omega),if_pos b1] at he; omega
  ·rw [if_neg (by omega),if_neg b1] at he ⊢
   exact h (j + 1) b (by omega) hb he
 ·rw [if_neg a1] at he ⊢
  by_cases a2:a=j + 1
  ·rw [if_pos a2] at he ⊢
   rw [if_neg (by omega),if_neg (by omega)] at he ⊢
   exact h j b (by omega) hb he
  ·rw [if_neg a2] at he ⊢
   by_cases b1:b=j
   ·rw [if_pos b1] at he ⊢
    exact h a (j + 1) (by omega) hj he
   ·rw [if_neg b1] at he ⊢
    by_cases b2:b=j + 1
    ·rw [if_pos b2] at he ⊢
     exact h a j (by omega) (by omega) he
    ·rw [if_neg b2] at he ⊢
     exact h a b hab hb he
theorem inner_st {n:Nat} [Inhabited (Fin n)] {r:List Int} (a:Nat):∀ (j:Nat) (d:Array (Fin n)),j < d.size->St r d->St r (insInner (ltR r) a j d)/\(insInner (ltR r) a j d).size=d.size
 | 0,d,_,h => ⟨h,rfl⟩
 | j + 1,d,hj,h => by
  unfold insInner
  by_cases hc:(decide (j + 1 > a) && ltR r d[j + 1]! d[j]!)=true
  ·rw [if_pos hc]
   rw [Bool.and_eq_true] at hc
   obtain ⟨h1,h2⟩:=inner_st a j (swp d (j + 1) j) (by rw [swp_sz]; omega) (swp_st h hj (of_decide_eq_true hc.2))
   exact ⟨h1,h2.trans (swp_sz _ _ _)⟩
  ·rw [if_neg hc]; exact ⟨h,rfl⟩
theorem outer_st {n:Nat} [Inhabited (Fin n)] {r:List Int} (a b:Nat):∀ (m i:Nat) (d:Array (Fin n)),b - i=m->b<=d.size->St r d->St r (insOuter (ltR r) a b i d)
 | 0,i,d,hm,hb,h => by unfold insOuter; rw [if_neg (by omega)]; exact h
 | m + 1,i,d,hm,hb,h => by
  unfold insOuter
  rw [if_pos (by omega)]
  obtain ⟨h1,h2⟩:=inner_st (r:=r) a i d (by omega) h
  exact outer_st a b m (i + 1) _ (by omega) (by rw [h2]; exact hb) h1
theorem ltR_swo {n:Nat} (r:List Int):SWO (ltR (n:=n) r) :=
 ⟨fun x => by unfold ltR; simp,fun x y z h1 h2 => by unfold ltR at *; have:=of_decide_eq_true h1; have:=of_decide_eq_true h2; exact decide_eq_true (by omega),
  fun x y z h1 h2 => by unfold ltR at *; have:=of_decide_eq_false h1; have:=of_decide_eq_false h2; exact decide_eq_false (by omega)⟩
structure OrdL (r:List Int) (n:Nat) (o:List Nat):Prop where
 len:o.length=n
 perm:o.Perm (List.range n)
 asc:∀ (i j:Nat) (hi:i < o.length) (hj:j < o.length),i < j->rk r o[i] < rk r o[j] ∨ (rk r o[i]=rk r o[j]/\o[i] < o[j])
def idA (n:Nat):Array (Fin n):=Array.ofFn id
theorem idA_sz (n:Nat):(idA n).size=n:=by unfold idA; simp
theorem idA_at {n:Nat} [Inhabited (Fin n)] (i:Nat) (h:i < n):(idA n)[i]! =⟨i,h⟩:=by
 unfold idA
 rw [getElem!_pos _ _ (by simpa using h)]; simp
theorem ofFn_range:∀ n:Nat,(List.ofFn fun i:Fin n => i.val)=List.range n:=fun n => by
 refine List.ext_getElem (by simp) fun i h1 h2 => ?_
 simp
theorem sorted_ordL (r:List Int) (n:Nat) [Inhabited (Fin n)]:OrdL r n ((insertionSort (ltR r) (idA n) 0 n).toList.map Fin.val):=by
 obtain ⟨h1,h2⟩:=insertionSort_holds (lt:=ltR r) (ltR_swo r) (idA n) 0 n (Nat.zero_le _) (by rw [idA_sz]; exact Nat.le_refl _)
 obtain ⟨p1,_,p3⟩:=h1
 rw [idA_sz] at p1
 have hst:St r (insertionSort (ltR r) (idA n) 0 n):=outer_st 0 n _ _ (idA n) rfl (by rw [idA_sz]; exact Nat.le_refl _) (fun i j hij hj he => by
  rw [idA_sz] at hj
  rw [idA_at i (by omega),idA_at j hj]; exact hij)
 generalize insertionSort (ltR r) (idA n) 0 n=d' at h2 p1 p3 hst
 have e1:d'.extract 0 n=d':=by
  have:=Array.extract_size (xs:=d')
  rw [p1] at this; exact this
 have e2:(idA n).extract 0 n=idA n:=by
  have:=Array.extract_size (xs:=idA n)
  rw [idA_sz] at this; exact this
 rw [e1,e2] at p3
 have hget:∀ (i:Nat) (h:i < (d'.toList.map Fin.val).length),(d'.toList.map Fin.val)[i]=(d'[i]!).val:=fun i h => by
  have hi:i < d'.size:=by simpa using h
  rw [getElem!_pos d' i hi,List.getElem_map]; simp
 refine ⟨by simp [p1],?_,fun i j hi hj hij => ?_⟩
 ·have:=p3.map Fin.val
  have e3:(idA n).toList.map Fin.val=List.range n:=by
   unfold idA
   rw [Array.toList_ofFn,List.map_ofFn]
   exact ofFn_range n
  rw [e3] at this; exact this
 ·rw [hget i hi,hget j hj]
  have hj':j < n:=by simp [p1] at hj; exact hj
  have hs:=of_decide_eq_false (h2 i j (Nat.zero_le _) hij hj')
  by_cases he:rk r (d'[i]!).val=rk r (d'[j]!).val
  ·exact .inr ⟨he,hst i j hij (by rw [p1]; exact hj') he⟩
  ·exact .inl (by omega)
end Go.Proofs.YtonlkmkfcaadlaaGreatDoor.RkT
namespace Go.Proofs.YtonlkmkfcaadlaaGreatDoor.RkP
open Go.RowKit Go.Sort
open ValM LexM NumM ExM NmM Kit ExL ExP ExN ExC RawV Within RawL GenL FldP FldR FldC NmO NmA NmI NmT NmR RkM RkA RkB RkC RkD RkO RkT
set_option linter.unusedVariables false
theorem grown_putRow {α:Type} [Inhabited α] {enc:α->Value} {w:World} {g q:Nat} (d:Array α):w.grownBy ((putRow enc w g 0 d).drewN q) (some g):=by
 refine ⟨rfl,rfl,rfl,by simp [putRow,mapBlock,World.drewN],fun k hk hne => ?_⟩
 have hne':¬ g=k:=fun e => hne (by rw [e])
 simp [putRow,mapBlock,World.drewN,Array.getElem?_modify,hne']
theorem nan_any (x:Int) (w:World):Calls Tryz.prog 108 #[.int .i64 x] w fun e w' => e=.returned (.bool false)/\w=w':=by
 have t1:(x != x)=false:=by simp
 go_enter Tryz.func108,Tryz.ntmps108
 go_wp2_with fail
 go_ret
 exact ⟨rfl,rfl⟩
def cmpI (x y:Int):Int:=if x < y then -1 else if y < x then 1 else 0
theorem compare_any (x y:Int) (w:World):Calls Tryz.prog 81 #[.int .i64 x,.int .i64 y] w fun e w' => e=.returned (.int .i64 (cmpI x y))/\w=w':=by
 unfold cmpI
 by_cases hxy:x < y
 ·rw [if_pos hxy]
  go_enter Tryz.func81,Tryz.ntmps81
  go_wp2_with (go_at_call 108; refine (nan_any _ _).mono ?_; rintro e w1 ⟨rfl,rfl⟩)
  go_ret
  exact ⟨rfl,rfl⟩
 ·rw [if_neg hxy]
  by_cases hyx:y < x
  ·rw [if_pos hyx]
   go_enter Tryz.func81,Tryz.ntmps81
   go_wp2_with (go_at_call 108; refine (nan_any _ _).mono ?_; rintro e w1 ⟨rfl,rfl⟩)
   go_ret
   exact ⟨rfl,rfl⟩
  ·rw [if_neg hyx]
   go_enter Tryz.func81,Tryz.ntmps81
   go_wp2_with (go_at_call 108; refine (nan_any _ _).mono ?_; rintro e w1 ⟨rfl,rfl⟩)
   go_ret
   exact ⟨rfl,rfl⟩
theorem closure_any (r:List Int) (B g c:Nat) (x y:Nat) (W:World) (hx:x < r.length) (hy:y < r.length) (hl:r.length<=1000) (hbox:W.cell? ⟨B,0,none⟩=some (.slice (some ⟨g,0,none⟩) r.length c)) (hrow:∀ j,j < r.length->W.cell? ⟨g,j,none⟩=some (.int .i64 (rk r j))) :
  Calls Tryz.prog 80 #[.int .i64 x,.int .i64 y,.pointer (some ⟨B,0,none⟩)] W fun e w' => e=.returned (.int .i64 (cmpI (rk r x) (rk r y)))/\∃ q,w'=W.drewN q:=by
 have h1:=hrow x hx
 have h2:=hrow y hy
 have hc:=fun V => compare_any (rk r x) (rk r y) V
 generalize rk r x=a at h1 hc
 generalize rk r y=b at h2 hc
 have HC:=Lib.hid hc
 have hxi:(x:Int) < (r.length:Int):=by omega
 have hyi:(y:Int) < (r.length:Int):=by omega
 have hx0:(0:Int)<=(x:Int):=by omega
 have hy0:(0:Int)<=(y:Int):=by omega
 clear hc hrow
 go_enter Tryz.func80,Tryz.ntmps80
 go_wp2_with fail
 go_quiet ((go_at_call 81; exact (HC.out _).mono fun _ _ h => ⟨h.1,_,h.2.symm⟩))
 go_wp2_with fail
 go_ret
 exact ⟨rfl,_,rfl⟩
set_option maxRecDepth 100000 in
set_option maxHeartbeats 4000000 in
theorem stable_any (n g c:Nat) (fv:Value) (w:World) (R:Ending->World->Prop) (hn:n < 20) (hi:Calls Tryz.prog 136 #[.slice (some ⟨g,0,none⟩) n c,.int .i64 0,.int .i64 n,fv] w fun e w' => e=.returned (.tuple #[])/\R e w') :
  Calls Tryz.prog 107 #[.slice (some ⟨g,0,none⟩) n c,.int .i64 n,fv] w fun e w' => e=.returned (.tuple #[])/\R e w':=by
 have HI:=Lib.hid hi
 have t1:¬ (20:Int)<=(n:Int):=by omega
 have t2:¬ (20:Int) < (n:Int):=by omega
 clear hi
 go_enter Tryz.func107,Tryz.ntmps107
 go_wp2_with fail
 go_loopw [7,8] (fun a b wr => a=.int .i64 0/\b=.int .i64 20/\wr=w) (fun _ _ _ => 1)
 case atStart => exact ⟨rfl,rfl,rfl⟩
 case round =>
  obtain ⟨rfl,rfl,rfl⟩:=hrel
  go_wp2_with (go_at_call 136; refine HI.out.mono ?_; rintro e w1 ⟨rfl,h1⟩; have H1:=Lib.hid h1; clear h1)
  go_loopw [6,7,8,9] (fun a _ _ _ wr => a=.int .i64 20/\wr=w1) (fun _ _ _ _ _ => 1)
  case atStart => exact ⟨rfl,rfl⟩
  case round =>
   obtain ⟨rfl,rfl⟩:=hrel
   go_wp2_with fail
   go_end0
   exact ⟨rfl,H1.out⟩
theorem sortStable_any (n g c:Nat) (fv:Value) (w:World) (R:Ending->World->Prop) (hn:n < 20) (hi:Calls Tryz.prog 136 #[.slice (some ⟨g,0,none⟩) n c,.int .i64 0,.int .i64 n,fv] w fun e w' => e=.returned (.tuple #[])/\R e w') :
  Calls Tryz.prog 79 #[.slice (some ⟨g,0,none⟩) n c,fv] w fun e w' => e=.returned (.tuple #[])/\R e w':=by
 have h:=stable_any n g c fv w R hn hi
 have H:=Lib.hid h
 clear h hi
 go_enter Tryz.func79,Tryz.ntmps79
 go_wp2_with (go_at_call 107; refine H.out.mono ?_; rintro e w1 ⟨rfl,h1⟩)
 go_end0
 exact ⟨rfl,h1⟩
def idV (n k:Nat):List Value:=(List.range n).map fun j => Value.int .i64 ((if j < k then j else 0:Nat):Int)
theorem idV_len (n k:Nat):(idV n k).length=n:=by unfold idV; simp
theorem idV_at (n k j:Nat) (h:j < n):(idV n k)[j]?=some (.int .i64 ((if j < k then j else 0:Nat):Int)):=by unfold idV; rw [List.getElem?_map,List.getElem?_range h]; rfl
theorem idV_set (n k:Nat) (h:k < n):(idV n k).set k (.int .i64 (k:Int))=idV n (k + 1):=by
 refine List.ext_getElem? fun j => ?_
 rw [List.getElem?_set,idV_len]
 by_cases e:k=j
 ·subst e; rw [if_pos rfl,if_pos h,idV_at _ _ _ h,if_pos (by omega)]
 ·rw [if_neg e]
  by_cases hj:j < n
  ·rw [idV_at _ _ _ hj,idV_at _ _ _ hj]
   by_cases h1:j < k
   ·rw [if_pos h1,if_pos (by omega)]
   ·rw [if_neg h1,if_neg (by omega)]
  ·rw [List.getElem?_eq_none (by rw [idV_len]; omega),List.getElem?_eq_none (by rw [idV_len]; omega)]
theorem idV_zero (n:Nat):idV n 0=List.replicate n (.int .i64 0):=by
 refine List.ext_getElem (by rw [idV_len,List.length_replicate]) fun i h1 h2 => ?_
 unfold idV; simp
def encF {n:Nat} (x:Fin n):Value:=.int .i64 (x.val:Int)
def OrderAt (r:List Int) (n:Nat) (w:World) (e:Ending) (w':World):Prop :=
 ∃ g cap o,e=.returned (.tuple #[.slice (some ⟨g,0,none⟩) n cap,.int .i64 0])/\OrdL r n o/\(∀ (j:Nat) (h:j < o.length),w'.cell? ⟨g,j,none⟩=some (.int .i64 (o[j]:Int)))/\w.heap.size<=g/\Below w.heap.size w w'
theorem cells_putRow {n:Nat} [Inhabited (Fin n)] {w:World} {g q:Nat} (d:Array (Fin n)) (hd:d.size=n) (h0:Holds encF w g 0 (idA n)):∀ (j:Nat) (h:j < (d.toList.map Fin.val).length),((putRow encF w g 0 d).drewN q).cell? ⟨g,j,none⟩=some (.int .i64 ((d.toList.map Fin.val)[j]:Int)):=fun j h => by
 have hj:j < d.size:=by simpa using h
 have h1:=holds_putRow encF w g 0 (idA n) d h0 (by rw [hd,idA_sz])
 have h2:=(h1 j hj).1
 rw [Nat.zero_add] at h2
 have e:((d.toList.map Fin.val)[j]:Nat)=(d[j]!).val:=by rw [getElem!_pos d j hj,List.getElem_map]; simp
 rw [e]
 exact h2
theorem sort_order (r:List Int) (n B g0 c0 g1 c1:Nat) (w W:World) (hn:1<=n) (hn14:n<=14) (hl:r.length=n) (hb:Below w.heap.size w W) (hg1:w.heap.size<=g1) (hBg:B ≠ g1) (h0g:g0 ≠ g1) (hBl:B < W.heap.size) (h0l:g0 < W.heap.size)
  (hbox:W.cell? ⟨B,0,none⟩=some (.slice (some ⟨g0,0,none⟩) n c0)) (hrow:∀ j,j < n->W.cell? ⟨g0,j,none⟩=some (.int .i64 (rk r j))) (hown:W.ownsRow w.heap.size 3 1 (.slice (some ⟨g1,0,none⟩) n c1) n (idV n n)) :
  Calls Tryz.prog 79 #[.slice (some ⟨g1,0,none⟩) n c1,.func (.func 80) #[] #[.pointer (some ⟨B,0,none⟩)]] W fun e w' => e=.returned (.tuple #[])/\∃ o,OrdL r n o/\(∀ (j:Nat) (h:j < o.length),w'.cell? ⟨g1,j,none⟩=some (.int .i64 (o[j]:Int)))/\Below w.heap.size w w':=by
 haveI:Inhabited (Fin n):=⟨⟨0,by omega⟩⟩
 have hH:Holds encF W g1 0 (idA n):=fun j hj => by
  rw [idA_sz] at hj
  rw [Nat.zero_add]
  refine ⟨?_,hown.frozenAt j⟩
  rw [hown.cellAt j (by omega),idV_at n n j hj,if_pos hj,idA_at j hj]; rfl
 have hcmp:CmpReads Tryz.prog 80 #[.pointer (some ⟨B,0,none⟩)] encF (fun x y:Fin n => cmpI (rk r x.val) (rk r y.val)) g1 0 (idA n).size W:=fun m os dk hdk x y => by
  have hk:∀ (b j:Nat),b ≠ g1->b < W.heap.size->(sortWorld encF W g1 0 m dk os).cell? ⟨b,j,none⟩=W.cell? ⟨b,j,none⟩:=fun b j hne hl => by
   unfold sortWorld
   rw [cell?_grow _ _ _ (by show b < _; rw [size_putRow]; exact hl)]
   rw [putRow_ahead]
   exact cell?_putRow_other encF W g1 0 dk ⟨b,j,none⟩ (.inl hne)
  exact closure_any r B g0 c0 x.val y.val (sortWorld encF W g1 0 m dk os) (by rw [hl]; exact x.isLt) (by rw [hl]; exact y.isLt) (by omega) (by rw [hk _ _ hBg hBl,hl]; exact hbox) (fun j hj => by rw [hk _ _ h0g h0l]; exact hrow j (by omega))
 have eg:∀ args w,(callFunc 80 args).run Tryz.prog w=.ok (.enter 80 args) w:=enters_of Tryz.func80 (by kernel_rfl) rfl
 have hi:=Tryz.insertionSortCmpFunc encF (fun _ => rfl) (fun x y:Fin n => cmpI (rk r x.val) (rk r y.val)) 80 #[.pointer (some ⟨B,0,none⟩)] g1 0 c1 0 n (idA n) W eg hcmp hH (Nat.zero_le _) (by rw [idA_sz]; exact Nat.le_refl _) (by rw [idA_sz]; omega)
 have hlt:ltOf (fun x y:Fin n => cmpI (rk r x.val) (rk r y.val))=ltR r:=by
  funext x y
  unfold ltOf ltR cmpI
  show decide ((if rk r x.val < rk r y.val then (-1:Int) else if rk r y.val < rk r x.val then 1 else 0) < 0)=decide (rk r x.val < rk r y.val)
  by_cases h1:rk r x.val < rk r y.val
  ·rw [if_pos h1]; simp [h1]
  ·rw [if_neg h1]
   by_cases h2:rk r y.val < rk r x.val
   ·rw [if_pos h2]; simp [h1]
   ·rw [if_neg h2]; simp [h1]
 rw [hlt,idA_sz] at hi
 have hS:=sorted_ordL r n
 refine sortStable_any n g1 c1 _ W _ (by omega) (hi.mono fun e w' h => ⟨h.1,?_⟩)
 obtain ⟨_,q,rfl⟩:=h
 have hd:(insertionSort (ltR r) (idA n) 0 n).size=n:=by
  have:=hS.len
  simpa using this
 exact ⟨_,hS,cells_putRow _ hd hH,hb.grown (grown_putRow _) hb.size (fun k e => by injection e with e; omega)⟩
set_option maxRecDepth 100000 in
set_option maxHeartbeats 4000000 in
theorem order_ok (ns:List (List Nat)) (n:Nat) (FA:Option Addr) (fc:Nat) (w:World) (hl:ns.length=n) (hn:1<=n) (hn14:n<=14) (hof:Calls Tryz.prog 78 #[.slice FA n fc] w (RankOk ns w)) :
  Calls Tryz.prog 48 #[.slice FA n fc] w (OrderAt (rankF ns) n w):=by
 obtain ⟨i0,hi,hz0,hz1,hz2⟩:=info_parts1 infoInt
 have hrl:(rankF ns).length=n:=by rw [rankF_len,hl]
 have hmk:(madeCells (Value.int .i64 0).cells (n * 1)).toList=idV n 0:=by rw [Nat.mul_one,idV_zero]; exact toList_madeCells_one _ _
 have HO:=Lib.hid hof
 have HL:=Lib.hid hl
 have HRl:=Lib.hid hrl
 have HMk:=Lib.hid hmk
 clear hof hl hrl hmk
 go_enter Tryz.func48,Tryz.ntmps48
 go_wp2_with fail
 refine HO.out.mono ?_; rintro e w1 ⟨v,rfl,hown,hb⟩
 obtain ⟨g0,c0,rfl,hg0,h0l,_,_,hc0⟩:=GenL.own_form hown (by rw [HL.out]; omega)
 have hc1:∀ j,j < n->w1.cell? ⟨g0,j,none⟩=some (.int .i64 (rk (rankF ns) j)):=fun j hj => by
  rw [hc0 j (by rw [HL.out]; omega),iV_at _ _ (by rw [HRl.out]; exact hj)]
 rw [HL.out]
 obtain ⟨W2,hW2⟩:∃ V,w1.alloc (.cells #[.slice (some ⟨g0,0,none⟩) n c0] 69)=V:=⟨_,rfl⟩
 obtain ⟨B,hB⟩:∃ B,w1.heap.size=B:=⟨_,rfl⟩
 have hb2:=b_new w1 (.cells #[.slice (some ⟨g0,0,none⟩) n c0] 69)
 have hblk:=World.alloc_heap_new w1 (.cells #[.slice (some ⟨g0,0,none⟩) n c0] 69)
 rw [hW2] at hb2 hblk
 rw [hB] at hblk
 have hBl:=(Array.getElem?_eq_some_iff.1 hblk).1
 have hc2:∀ j,j < n->W2.cell? ⟨g0,j,none⟩=some (.int .i64 (rk (rankF ns) j)):=fun j hj => (hb2.cell (p:=⟨g0,j,none⟩) h0l).trans (hc1 j hj)
 have hbox:W2.cell? ⟨B,0,none⟩=some (.slice (some ⟨g0,0,none⟩) n c0):=by simp [World.cell?,hblk]
 have h0W:g0 < W2.heap.size:=Nat.lt_of_lt_of_le h0l hb2.size
 have hbw2:=b_trans hb hb2
 have HW2:=Lib.hid hW2
 have HB:=Lib.hid hB
 have HC:=Lib.hid (And.intro hc2 hbox)
 have HBw:=Lib.hid hbw2
 have HLt:=Lib.hid (And.intro hBl h0W)
 clear hown hb hc0 hc1 hW2 hB hb2 hblk hBl hc2 hbox h0W hbw2 h0l hg0
 go_upto_region 2 with fail
 rw [HW2.out,HB.out]
 go_wp2_with (at_make; refine wpList_make_full _ rfl _ _ 69 rfl W2.heap.size 3 i0 _ 1 Tryz.underlying69 hi hz0 hz1 .i64 .i64 _ _ n rfl rfl rfl rfl (by rw [hz2]; omega) (by unfold maxLen; omega) (Nat.le_refl _) ?_; intro w3 hown hgrow; rw [HMk.out] at hown; have H3:=Lib.hid (And.intro hown hgrow); clear hown hgrow)
 go_loopw [8,23] (fun _ ii wr => ∃ k:Nat,ii=.int .i64 k/\k<=n/\wr.ownsRow W2.heap.size 3 1 (.slice (some ⟨W2.heap.size,0,none⟩) n n) n (idV n k)/\Below W2.heap.size W2 wr) (fun _ ii _ => n - (intOf ii).toNat)
 case atStart => exact ⟨0,rfl,by omega,H3.out.1,(Below.refl _ _).grown H3.out.2 (Nat.le_refl _) (fun k e => by cases e)⟩
 case round =>
  obtain ⟨k,rfl,hk,hown,hb⟩:=hrel
  by_cases hlt:k < n
  ·have hcell:wr.cell? ⟨W2.heap.size,k,none⟩=some (.int .i64 0):=by rw [hown.cellAt k (by omega),idV_at _ _ _ hlt,if_neg (Nat.lt_irrefl _)]; rfl
   have hfz:=hown.frozenAt k
   have hst:=(hown.stored k (.int .i64 (k:Int))).1
   rw [idV_set n k hlt] at hst
   have hb4:=hb.setCell (p:=⟨W2.heap.size,k,none⟩) (Nat.le_refl _) (.int .i64 (k:Int))
   have HS:=Lib.hid (And.intro hst hb4)
   have hki:(k:Int) < (n:Int):=by omega
   clear hst hb4 hown hb
   go_wp2_with fail
   go_roundw
   case rel => exact ⟨k + 1,by go_num,by omega,HS.out.1,HS.out.2⟩
   case measure => simp [intOf]; omega
  ·obtain rfl:k=n:=by omega
   have hwl:=HBw.out.size
   have hl2:=HLt.out
   have hs:=hb.size
   have hso:=sort_order (rankF ns) k B g0 c0 W2.heap.size k w wr hn hn14 HRl.out (b_trans HBw.out hb) hwl (by omega) (by omega) (by omega) (by omega) ((hb.cell (p:=⟨B,0,none⟩) hl2.1).trans HC.out.2) (fun j hj => (hb.cell (p:=⟨g0,j,none⟩) hl2.2).trans (HC.out.1 j hj)) ⟨hown.1,hown.2.imp id fun ⟨g,cap,cur,a,b,c⟩ => ⟨g,cap,cur,a,Nat.le_trans hwl b,c⟩⟩
   have HSo:=Lib.hid hso
   clear hso hown hb hl2 hs
   go_wp2_with (go_at_call 79; refine HSo.out.mono ?_; rintro e w5 ⟨rfl,o,ho,hco,hb5⟩; have H5:=Lib.hid (And.intro ho (And.intro hco hb5)); clear ho hco hb5)
   go_ret2
   exact ⟨_,_,o,rfl,H5.out.1,H5.out.2.1,hwl,H5.out.2.2⟩
end Go.Proofs.YtonlkmkfcaadlaaGreatDoor.RkP
namespace Go.Proofs.YtonlkmkfcaadlaaGreatDoor.RkF
open Go.RowKit
open Kit RkM RkA RkB RkC RkD RkO RkT RkP
set_option linter.unusedVariables false
theorem ordL_lt {r:List Int} {n:Nat} {o:List Nat} (h:OrdL r n o) (k:Nat) (hk:k < o.length):o[k] < n:=by
 have:=h.perm.mem_iff.1 (List.getElem_mem hk)
 exact List.mem_range.1 this
theorem ordL_ahead {r:List Int} {n:Nat} {o:List Nat} (h:OrdL r n o) (k:Nat) (hk:k < o.length) (j:Nat) (hj:j < n) (hr:rk r j < rk r o[k]):j ∈ o.take k:=by
 obtain ⟨m,hm,e⟩:=List.getElem_of_mem (h.perm.mem_iff.2 (List.mem_range.2 hj))
 by_cases hmk:m < k
 ·rw [← e]
  have:(o.take k)[m]'(by rw [List.length_take]; omega)=o[m]:=List.getElem_take
  rw [← this]; exact List.getElem_mem _
 ·exfalso
  by_cases h1:m=k
  ·subst h1; rw [e] at hr; omega
  ·have:=h.asc k m hk hm (by omega)
   rw [e] at this; omega
end Go.Proofs.YtonlkmkfcaadlaaGreatDoor.RkF
namespace Go.Proofs.YtonlkmkfcaadlaaGreatDoor.WhT
open Go.RowKit
open ValM LexM NumM ExM NmM StrM EvM EvP Kit ExL ExP ExN ExC RawV Within RawL RawN GenL FrmM FldP FldR FldC TyM Ty NmO NmA NmI NmT NmR RkM RkA RkB RkC RkD RkT TxT WhM
set_option linter.unusedVariables false
theorem refsL_in {l:List Ex} {s:ByteArray} (h:s ∈ refsL l):∃ x ∈ l,s ∈ Ex.refs x:=by
 induction l with
 | nil => rw [refsL_nil] at h; simp at h
 | cons x l ih =>
  rw [refsL_cons] at h
  rcases List.mem_append.1 h with h | h
  ·exact ⟨x,by simp,h⟩
  ·obtain ⟨y,hy,g⟩:=ih h
   exact ⟨y,by simp [hy],g⟩
theorem ty_refs {G:List (ByteArray × Int)}:∀ (x:Ex) (t:Int),x.okN->Ex.ty G x=(t,0)->∀ s ∈ Ex.refs x,(fieldT G s).2=0:=by
 refine Ex.ind fun d l ih => ?_
 intro t hok h s hs
 have hokl:=((okN_mk d l).1 hok).2
 by_cases h2:d.op=2
 ·have hl:l.length=0:=by
   rw [(okN_op hok).2.2,h2]; rfl
  obtain rfl:l=[]:=List.eq_nil_of_length_eq_zero hl
  rw [refs_mk_pos d [] h2,refsL_nil] at hs
  simp at hs
  subst hs
  rw [ty_mk] at h; unfold tyN at h; rw [if_neg (by omega),if_pos h2] at h; rw [h]
 ·rw [refs_mk_neg d l h2] at hs
  obtain ⟨y,hy,hsy⟩:=refsL_in hs
  by_cases h1:d.op=1
  ·have hl:l.length=0:=by
    rw [(okN_op hok).2.2,h1]; rfl
   obtain rfl:l=[]:=List.eq_nil_of_length_eq_zero hl
   simp at hy
  ·obtain ⟨g1,_⟩:=ty_types h h1 h2
   exact ih y hy _ (hokl y hy) (Prod.ext rfl (g1 y hy)) s hsy
theorem wt_refs {F:List Fw} {ρ:ByteArray->Nat} (hF:Wt F ρ) {f:Fw} (hf:f ∈ F) (h1:f.kind ≠ 1) {s:ByteArray} (hs:s ∈ Ex.refs f.x):∃ g ∈ F,g.nm=s:=by
 have hk:=hF.kinds f hf
 have hx:=(checkE_zero (hF.src f hf h1)).2.2
 have hz:(fieldT (ftsW F) s).2=0:=by
  by_cases h2:f.kind=2
  ·exact ty_refs f.x _ hx (hF.form f hf h2) s hs
  ·exact ty_refs f.x (Ex.ty (ftsW F) f.x).1 hx (Prod.ext rfl (hF.look f hf (by omega))) s hs
 refine Classical.byContradiction fun hno => ?_
 rw [type_no fun g hg e => hno ⟨g,hg,e⟩] at hz
 exact absurd hz (by decide)
theorem rho_at {es:List FE} {X:Nat->Ex} (hX:Srcs X es) (h:checkF (es.map FE.fd) X=0) (k:Nat) (hk:k < es.length):rho es X es[k].nm=(rk (rankF (needsF (es.map FE.fd) X)) k).toNat:=by
 unfold rho; rw [at_own hX h k hk]
theorem ordW_of {es:List FE} {X:Nat->Ex} {w:World} (hX:Srcs X es) (hi:FIs w es) (h:checkF (es.map FE.fd) X=0) (hr:∀ i,i < es.length->0<=rk (rankF (needsF (es.map FE.fd) X)) i) {o:List Nat} (ho:OrdL (rankF (needsF (es.map FE.fd) X)) es.length o):OrdW (es.map toW) o:=by
 have hW:=wk_ranks hX hi h hr
 refine ⟨by rw [ho.len,List.length_map],fun i hi => ?_,fun i hi => ?_,?_,fun t ht h2 h1 s hs => ?_⟩
 ·rw [List.length_map]
  have:=(ho.perm.mem_iff (a:=i)).1 hi
  exact List.mem_range.1 this
 ·rw [List.length_map] at hi
  exact (ho.perm.mem_iff (a:=i)).2 (List.mem_range.2 hi)
 ·exact ho.perm.nodup_iff.2 List.nodup_range
 ·have hm:=List.getElem_mem h2
  obtain ⟨g,hg,hgs⟩:=wt_refs hW hm h1 hs
  have hlt:=hW.dep _ hm h1 s hs ⟨g,hg,hgs⟩
  obtain ⟨e,he,rfl⟩:=List.mem_map.1 hg
  obtain ⟨j,hj,rfl⟩:=List.getElem_of_mem he
  have h2':o[t] < es.length:=by rw [List.length_map] at h2; exact h2
  have hnm:(es.map toW)[o[t]].nm=es[o[t]].nm:=by rw [List.getElem_map]; rfl
  rw [hnm,← hgs] at hlt
  have hlt':rho es X es[j].nm < rho es X es[o[t]].nm:=hlt
  rw [rho_at hX h j hj,rho_at hX h _ h2'] at hlt'
  have h3:=hr j hj
  refine ⟨j,by rw [List.length_map]; exact hj,RkF.ordL_ahead ho t ht j hj (by omega),?_⟩
  rw [List.getElem_map]; exact hgs
end Go.Proofs.YtonlkmkfcaadlaaGreatDoor.WhT
namespace Go.Proofs.YtonlkmkfcaadlaaGreatDoor.WhT
open Go.RowKit
open ValM LexM NumM ExM NmM StrM EvM EvP FoM Kit ExL ExP ExN ExC RawV Within RawL RawN GenL FrmM FldP FldR FldC TyM Ty NmO NmA NmI NmT NmR RkM RkA RkB RkC RkD RkT TxT EvF FcM WhM WhQ
set_option linter.unusedVariables false
theorem facts_zero {F:List GenL.Fd} {L:List Fc} (h:factsE F L=0):∀ j,j < L.length->factE F L j=0:=by
 have key:∀ n,n<=L.length->firstI (factE F L) n=0->∀ j,j < n->factE F L j=0:=by
  intro n
  induction n with
  | zero => intro _ _ j hj; omega
  | succ n ih =>
   intro hn h j hj
   unfold firstI at h
   by_cases h1:firstI (factE F L) n=0
   ·rw [if_pos h1] at h
    by_cases e:j=n
    ·subst e; exact h
    ·exact ih (by omega) h1 j (by omega)
   ·rw [if_neg h1] at h; exact absurd h h1
 exact key L.length (Nat.le_refl _) h
theorem facts_in {F:List GenL.Fd} {L:List Fc} (h:factsE F L=0) (i:Nat) (hi:i < L.length):∃ h2:atF F L[i].nm < F.length,F[atF F L[i].nm].kind=1/\knV L[i].v=true/\L[i].v.k=F[atF F L[i].nm].ty/\keyZ L[i]=true/\metB L i L[i].nm=false:=by
 have h1:=facts_zero h i hi
 unfold factE at h1
 rw [dif_pos hi] at h1
 by_cases h2:toldE F L[i].nm L[i].v.k L[i].v.n L[i].v.s=0
 ·rw [if_pos h2] at h1
  by_cases h3:keyZ L[i]=true
  ·rw [if_pos h3] at h1
   by_cases h4:metB L i L[i].nm=true
   ·rw [if_pos h4] at h1; exact absurd h1 (by decide)
   ·unfold toldE at h2
    by_cases h5:atF F L[i].nm < F.length
    ·rw [dif_pos h5] at h2
     by_cases h6:F[atF F L[i].nm].kind=1
     ·rw [if_pos h6] at h2
      by_cases h7:knownB L[i].v.k L[i].v.n L[i].v.s.data.toList=true/\L[i].v.k=F[atF F L[i].nm].ty
      ·exact ⟨h5,h6,h7.1,h7.2,h3,by simpa using h4⟩
      ·rw [if_neg h7] at h2; exact absurd h2 (by decide)
     ·rw [if_neg h6] at h2; exact absurd h2 (by decide)
    ·rw [dif_neg h5] at h2; exact absurd h2 (by decide)
  ·rw [if_neg h3] at h1; exact absurd h1 (by decide)
 ·rw [if_neg h2] at h1; exact absurd h1 h2
theorem kn_ok {v:Vl} (h:knV v=true):v.ok:=by
 unfold knV knownB at h
 rw [Bool.and_eq_true,decide_eq_true_eq] at h
 exact h.2
theorem facts_oks {F:List GenL.Fd} {L:List Fc} (h:factsE F L=0):Oks (L.map toO):=fun o ho => by
 obtain ⟨f,hf,rfl⟩:=List.mem_map.1 ho
 obtain ⟨i,hi,rfl⟩:=List.getElem_of_mem hf
 obtain ⟨_,_,h3,_⟩:=facts_in h i hi
 exact kn_ok h3
theorem facts_ty {es:List FE} {X:Nat->Ex} {L:List Fc} (hX:Srcs X es) (hc:checkF (es.map FE.fd) X=0) (h:factsE (es.map FE.fd) L=0):∀ f ∈ es.map toW,∀ o ∈ L.map toO,o.nm=f.nm->o.has.k=f.ty:=fun f hf o ho e => by
 obtain ⟨g,hg,rfl⟩:=List.mem_map.1 hf
 obtain ⟨k,hk,rfl⟩:=List.getElem_of_mem hg
 obtain ⟨q,hq,rfl⟩:=List.mem_map.1 ho
 obtain ⟨i,hi,rfl⟩:=List.getElem_of_mem hq
 obtain ⟨h2,_,_,h4,_⟩:=facts_in h i hi
 have e':L[i].nm=es[k].nm:=e
 have ha:=at_own hX hc k hk
 have key:∀ m (hm:m < (es.map FE.fd).length),m=k->(es.map FE.fd)[m].ty=es[k].ty:=fun m hm em => by subst em; rw [List.getElem_map]; rfl
 show L[i].v.k=es[k].ty
 rw [h4]
 exact key _ h2 (by rw [e',ha])
theorem facts_tyin {es:List FE} {X:Nat->Ex} {L:List Fc} (hX:Srcs X es) (hc:checkF (es.map FE.fd) X=0) (h:factsE (es.map FE.fd) L=0):TyIn (es.map toW) (L.map toO):=fun f hf _ o ho e => .inl (facts_ty hX hc h f hf o ho e)
theorem inV_ty {ins:List Fo} {f:Fw} (h:∀ o ∈ ins,o.nm=f.nm->o.has.k=f.ty):(inV ins f).k=f.ty:=by
 induction ins with
 | nil => rfl
 | cons o l ih =>
  unfold inV
  by_cases e:o.nm=f.nm
  ·rw [if_pos e]; exact h o (by simp) e
  ·rw [if_neg e]; exact ih fun p hp => h p (by simp [hp])
theorem facts_nop {es:List FE} {X:Nat->Ex} {L:List Fc} (hX:Srcs X es) (hc:checkF (es.map FE.fd) X=0) (h:factsE (es.map FE.fd) L=0) (hty:∀ f ∈ es.map toW,1<=f.ty/\f.ty<=3):InNop (es.map toW) (L.map toO):=fun f hf _ => by
 rw [inV_ty (facts_ty hX hc h f hf)]
 have:=hty f hf
 omega
theorem atW {es:List FE} {X:Nat->Ex} (hX:Srcs X es) (hc:checkF (es.map FE.fd) X=0) (k:Nat) (hk:k < es.length) (s:ByteArray) (e:s=es[k].nm):∃ h:atF (es.map FE.fd) s < (es.map FE.fd).length,atF (es.map FE.fd) s=k/\(es.map FE.fd)[atF (es.map FE.fd) s]=es[k].fd:=by
 have ha:=at_own hX hc k hk
 have hl:atF (es.map FE.fd) s < (es.map FE.fd).length:=by rw [e,ha,List.length_map]; exact hk
 have key:∀ m (hm:m < (es.map FE.fd).length),m=k->(es.map FE.fd)[m]=es[k].fd:=fun m hm em => by subst em; rw [List.getElem_map]
 exact ⟨hl,by rw [e,ha],key _ hl (by rw [e,ha])⟩
theorem orc_good {an:Fw->Vl->Vl} {es:List FE} {X:Nat->Ex} {ρ:ByteArray->Nat} {L:List Fc} (hX:Srcs X es) (hc:checkF (es.map FE.fd) X=0) (hW:Wt (es.map toW) ρ) (ha:AnOk an (es.map toW)) (h:OrcOk an (es.map toW) (L.map toO)):orcE (es.map FE.fd) X L=0:=by
 refine orc_all fun i hi => ?_
 unfold orc1
 rw [dif_pos hi]
 have hm:toO L[i] ∈ L.map toO:=List.mem_map.2 ⟨_,List.getElem_mem hi,rfl⟩
 obtain ⟨f,hf,e1,e2,e3,e4,e5⟩:=h.each _ hm
 obtain ⟨g,hg,rfl⟩:=List.mem_map.1 hf
 obtain ⟨k,hk,rfl⟩:=List.getElem_of_mem hg
 obtain ⟨hl,hat,hfd⟩:=atW hX hc k hk L[i].nm e1
 rw [dif_pos hl,hfd,hat]
 have k3:es[k].fd.kind=3:=e2
 rw [if_pos k3]
 have hkey:kyB (keyV L[i]) (keyT (es.map FE.fd) X k)=true:=by
  unfold kyB
  rw [Bool.and_eq_true,decide_eq_true_eq]
  refine ⟨e3,?_⟩
  have e4':(keyV L[i]).k=(Ex.ty (ftsW (es.map toW)) es[k].x).1:=e4
  rw [e4']
  unfold keyT
  have hsrc:es[k].x.checkE=0:=hW.src _ hf (by rw [show (toW es[k]).kind=3 from e2]; decide)
  rw [hX k hk,toW_fts]
  unfold ofT
  rw [if_pos hsrc]
 have hans:ansB L[i].v es[k].fd.ty=true:=by
  have e5':L[i].v=an (toW es[k]) (keyV L[i]):=e5
  have:=ha _ hf e2 (keyV L[i]) e3
  unfold ansB
  rw [e5',Bool.and_eq_true,Bool.or_eq_true,decide_eq_true_eq,decide_eq_true_eq]
  exact ⟨this.1,.inl this.2⟩
 rw [hkey,hans]
 have hmet:metO L i L[i]=false:=by
  unfold metO
  rw [List.any_eq_false]
  intro x hx
  obtain ⟨j,hj,rfl⟩:=List.getElem_of_mem hx
  rw [List.length_take] at hj
  rw [List.getElem_take]
  have:=h.once j i (by rw [List.length_map]; omega) (by rw [List.length_map]; exact hi) (by omega)
  rw [List.getElem_map,List.getElem_map] at this
  intro hh
  rw [Bool.and_eq_true,decide_eq_true_eq,sameV_iff] at hh
  exact this hh
 rw [hmet,if_pos (show (true && true)=true from rfl),if_neg (by decide)]
theorem orc_good_take {an:Fw->Vl->Vl} {F:List Fw} {out:List Fo} (h:OrcOk an F out) (m:Nat):OrcOk an F (out.take m):=by
 refine ⟨fun o ho => h.each o (List.mem_of_mem_take ho),fun i j hi hj hij => ?_⟩
 rw [List.length_take] at hi hj
 rw [List.getElem_take,List.getElem_take]
 exact h.once i j (by omega) (by omega) hij
end Go.Proofs.YtonlkmkfcaadlaaGreatDoor.WhT
namespace Go.Proofs.YtonlkmkfcaadlaaGreatDoor.ShT
open Go.RowKit
open ValM LexM NumM ExM NmM Kit ExL ExP ExN RawV Within RawL GenL FldP FldR FldC FrmM NmA NmT PgM PgA RkM RkA
set_option linter.unusedVariables false
def frBox (FA:Option Addr) (n fc:Nat) (PA:Option Addr) (pn pc:Nat):Obj:=.cells #[.slice FA n fc,.slice PA pn pc] 26
theorem fr_cells (w:World) (FA:Option Addr) (n fc:Nat) (PA:Option Addr) (pn pc:Nat) (V:World) (hV:Below (w.alloc (frBox FA n fc PA pn pc)).heap.size (w.alloc (frBox FA n fc PA pn pc)) V):V.cell? ⟨w.heap.size,0,none⟩=some (.slice FA n fc)/\V.cell? ⟨w.heap.size,1,none⟩=some (.slice PA pn pc):=by
 have e1:V.heap[w.heap.size]?=_:=(hV.block _ (by simp)).trans (World.alloc_heap_new w (frBox FA n fc PA pn pc))
 unfold frBox at e1
 exact ⟨by simp [World.cell?,e1],by simp [World.cell?,e1]⟩
set_option maxHeartbeats 2000000 in
theorem check_any (n:Nat) (FA:Option Addr) (fc:Nat) (pn:Nat) (PA:Option Addr) (pc:Nat) (R1 R2:Int) (w:World)
  (h1:∀ V,Below w.heap.size w V->Calls Tryz.prog 78 #[.slice FA n fc] V fun e w' => ∃ v p,e=.returned (.tuple #[v,p,.int .i64 R1])/\Below V.heap.size V w')
  (h2:R1=0->∀ V,Below w.heap.size w V->Calls Tryz.prog 97 #[.slice PA pn pc,.slice FA n fc] V fun e w' => e=.returned (.int .i64 R2)/\Below V.heap.size V w') :
  Calls Tryz.prog 75 #[.agg #[.slice FA n fc,.slice PA pn pc]] w fun e w' => e=.returned (.int .i64 (if R1=0 then R2 else R1))/\Below w.heap.size w w':=by
 obtain ⟨W1,hW1⟩:∃ V,w.alloc (frBox FA n fc PA pn pc)=V:=⟨_,rfl⟩
 obtain ⟨B1,hB1⟩:∃ B,w.heap.size=B:=⟨_,rfl⟩
 have hb1:=b_new w (frBox FA n fc PA pn pc)
 have hcell:=fr_cells w FA n fc PA pn pc
 rw [hW1] at hb1 hcell
 rw [hB1] at hcell
 obtain ⟨c0,c1⟩:=hcell W1 (Below.refl _ _)
 have H1:=Lib.hid (h1 W1 hb1)
 have H2:=Lib.hid h2
 have HB:=Lib.hid hb1
 have HCell:=Lib.hid hcell
 have HW1:=Lib.hid hW1
 have HB1:=Lib.hid hB1
 clear h1 h2 hb1 hcell hW1 hB1
 unfold frBox at HW1
 by_cases h0:R1=0
 ·subst h0
  rw [if_pos rfl]
  have H3:=Lib.hid (H2.out rfl)
  go_enter Tryz.func75,Tryz.ntmps75
  go_upto_region 1 with fail
  rw [HW1.out,HB1.out]
  go_wp2_with fail
  refine H1.out.mono ?_; rintro e w1 ⟨v,p,rfl,hb1⟩
  obtain ⟨c0,c1⟩:=HCell.out w1 hb1
  have HB2:=Lib.hid (b_trans HB.out hb1)
  clear hb1
  go_wp2_with fail
  refine (H3.out _ HB2.out).mono ?_; rintro e w2 ⟨rfl,hb2⟩
  have HB3:=Lib.hid (b_trans HB2.out hb2)
  clear hb2
  go_wp2_with fail
  go_ret
  exact ⟨rfl,HB3.out⟩
 ·rw [if_neg h0]
  have t1:(R1 != 0)=true:=bne_iff_ne.2 h0
  clear h0
  go_enter Tryz.func75,Tryz.ntmps75
  go_upto_region 1 with fail
  rw [HW1.out,HB1.out]
  go_wp2_with fail
  refine H1.out.mono ?_; rintro e w1 ⟨v,p,rfl,hb1⟩
  have HB2:=Lib.hid (b_trans HB.out hb1)
  clear hb1
  go_wp2_with fail
  go_ret
  exact ⟨rfl,HB2.out⟩
end Go.Proofs.YtonlkmkfcaadlaaGreatDoor.ShT
namespace Go.Proofs.YtonlkmkfcaadlaaGreatDoor.ShL
open Go.RowKit
open ValM LexM NumM ExM NmM Kit ExL ExP ExN RawV Within RawL GenL FldP FldR FldC FrmM PgM PgA RkM RkA ShT
set_option linter.unusedVariables false
end Go.Proofs.YtonlkmkfcaadlaaGreatDoor.ShL
namespace Go.Proofs.YtonlkmkfcaadlaaGreatDoor.CycO
open Go.RowKit
open ValM LexM NumM ExM NmM Kit ExL ExP ExN ExC RawV Within RawL GenL FldP FldR FldC TyM Ty NmO NmA NmI NmT NmR RkM RkA RkB RkC RkD RkO RegI
set_option linter.unusedVariables false
def itN (f:Nat->Nat) (a:Nat):Nat->Nat
 | 0 => a
 | k + 1 => f (itN f a k)
def unB (r:List Int) (j:Nat):Bool:=decide (rk r j=-1)
def nxtF (ns:List (List Nat)) (r:List Int) (i:Nat):Nat:=(nd ns i).getD ((nd ns i).findIdx (unB r)) 0
theorem nxt_at {ns:List (List Nat)} {r:List Int} {i:Nat} (h:∃ j ∈ nd ns i,rk r j=-1):∃ hk:(nd ns i).findIdx (unB r) < (nd ns i).length,(nd ns i)[(nd ns i).findIdx (unB r)]=nxtF ns r i/\rk r (nxtF ns r i)=-1:=by
 obtain ⟨j,hj,e⟩:=h
 have hk:(nd ns i).findIdx (unB r) < (nd ns i).length:=List.findIdx_lt_length_of_exists ⟨j,hj,decide_eq_true e⟩
 have e2:(nd ns i)[(nd ns i).findIdx (unB r)]=nxtF ns r i:=by
  unfold nxtF
  rw [List.getD_eq_getElem?_getD,List.getElem?_eq_getElem hk]; rfl
 refine ⟨hk,e2,?_⟩
 have:=List.findIdx_getElem (xs:=nd ns i) (p:=unB r) (w:=hk)
 rw [e2] at this
 exact of_decide_eq_true this
theorem un_needs {ns:List (List Nat)} {r:List Int} (hf:Fix ns r) (hb:∀ i,-1<=rk r i) (i:Nat) (hi:i < ns.length) (hu:rk r i=-1):∃ j ∈ nd ns i,rk r j=-1:=by
 rcases Classical.em (∃ j ∈ nd ns i,rk r j=-1) with h | h
 ·exact h
 ·have h0:∀ j ∈ nd ns i,0<=rk r j:=fun j hj => by
   have h1:rk r j ≠ -1:=fun e => h ⟨j,hj,e⟩
   have h2:=hb j
   omega
  have:=(above_ok (nd ns i) 0 h0 (Int.le_refl _)).1
  rw [hf i hi,hu] at this
  omega
theorem cclosure_any (r:List Int) (n B g c:Nat) (x:Nat) (W:World) (hx:x < n) (hl:n<=1000) (hbox:W.cell? ⟨B,0,none⟩=some (.slice (some ⟨g,0,none⟩) n c)) (hrow:∀ j,j < n->W.cell? ⟨g,j,none⟩=some (.int .i64 (rk r j))) :
  Calls Tryz.prog 135 #[.int .i64 x,.pointer (some ⟨B,0,none⟩)] W fun e w' => e=.returned (.bool (unB r x))/\∃ q,w'=W.drewN q:=by
 have h1:=hrow x hx
 unfold unB
 generalize rk r x=b at h1
 have hxi:(x:Int) < (n:Int):=by omega
 have hx0:(0:Int)<=(x:Int):=by omega
 clear hrow
 go_enter Tryz.func135,Tryz.ntmps135
 go_wp2_with fail
 go_ret
 exact ⟨rfl,0,rfl⟩
def encF3 {n:Nat} (x:Fin n):Value:=.int .i64 (x.val:Int)
theorem firstUn_any (r:List Int) (n B g c:Nat) (L:List Nat) (A:Option Addr) (ci:Nat) (W:World) (hn:1<=n) (hl:n<=1000) (hL:∀ j ∈ L,j < n) (hLl:L.length<=1048576) (hr:NtRow W A L) (hBl:B < W.heap.size) (hgl:g < W.heap.size)
  (hbox:W.cell? ⟨B,0,none⟩=some (.slice (some ⟨g,0,none⟩) n c)) (hrow:∀ j,j < n->W.cell? ⟨g,j,none⟩=some (.int .i64 (rk r j))) (hk:L.findIdx (unB r) < L.length) :
  Calls Tryz.prog 86 #[.slice A L.length ci,.func (.func 135) #[] #[.pointer (some ⟨B,0,none⟩)]] W fun e w' => e=.returned (.int .i64 (L.findIdx (unB r):Nat))/\∃ q,w'=W.drewN q:=by
 haveI:Inhabited (Fin n):=⟨⟨0,by omega⟩⟩
 obtain ⟨g2,rfl,_⟩:=hr 0 (by omega)
 have eg:∀ args w,(callFunc 135 args).run Tryz.prog w=.ok (.enter 135 args) w:=enters_of Tryz.func135 (by kernel_rfl) rfl
 obtain ⟨zs,hzs⟩:∃ zs:List (Fin n),zs.map Fin.val=L:=⟨L.pmap (fun j h => ⟨j,h⟩) hL,by rw [List.map_pmap]; simp⟩
 have hzl:zs.length=L.length:=by rw [← hzs,List.length_map]
 have hp:PredAt Tryz.prog 135 #[.pointer (some ⟨B,0,none⟩)] encF3 (fun x:Fin n => unB r x.val) W:=fun V x hV =>
  cclosure_any r n B g c x.val V x.isLt hl ((hV.cell (p:=⟨B,0,none⟩) hBl).trans hbox) (fun j hj => (hV.cell (p:=⟨g,j,none⟩) hgl).trans (hrow j hj))
 have:=Tryz.slices_IndexFunc_f86 encF3 (fun x:Fin n => unB r x.val) 135 #[.pointer (some ⟨B,0,none⟩)] eg g2 0 L.length ci zs W hp (by omega) (by omega) (fun j hj => by
  have hj2:j < L.length:=by omega
  obtain ⟨g3,e,hc⟩:=hr j hj2
  injection e with e; injection e with e _ _
  subst e
  rw [Nat.zero_add,hc,getElem!_pos zs j hj]
  unfold encF3
  have:L[j]=(zs[j]).val:=by simp only [← hzs,List.getElem_map]
  rw [this])
 refine this.mono fun e w' h => ⟨?_,h.2⟩
 have hat:∀ j (hj:j < zs.length),(zs[j]!).val=L[j]'(by omega):=fun j hj => by
  rw [getElem!_pos zs j hj]
  simp only [← hzs,List.getElem_map]
 rw [h.1,Lib.idxBy_hit (fun _ y => unB r y.val) zs L.length (L.findIdx (unB r)) default hk (by omega) (by show unB r (zs[L.findIdx (unB r)]!).val=true; rw [hat _ (by omega)]; exact List.findIdx_getElem) (fun j hj => by
  show unB r (zs[j]!).val=false
  rw [hat j (by omega)]
  exact by simpa using List.not_of_lt_findIdx hj)]
theorem containsS_hasB2 (L:List ByteArray) (s:ByteArray):Lib.containsS L s=hasB L s:=by
 rw [Bool.eq_iff_iff,Lib.containsS_iff,hasB_true]
theorem containsN_any (L:List ByteArray) (s:ByteArray) (v:Value) (base:Nat) (w:World) (hl:L.length<=1048576) (h:w.ownsRow base 9 1 v L.length (strV L)) :
  Calls Tryz.prog 34 #[v,.string s] w fun e w' => e=.returned (.bool (hasB L s))/\w=w':=by
 rcases Nat.eq_zero_or_pos L.length with h0 | h0
 ·obtain ⟨A,c,rfl,_⟩:=SRow.of_own h
  obtain rfl:L=[]:=List.eq_nil_of_length_eq_zero h0
  exact (Tryz.slices_Contains_string_empty A c s w).mono fun e w' h => ⟨h.1,h.2.symm⟩
 ·obtain ⟨A,c,rfl,hr⟩:=SRow.of_own h
  obtain ⟨g,rfl,_⟩:=hr 0 h0
  have:=Tryz.slices_Contains_string g 0 L.length c L s w (Nat.le_refl _) (by omega) (fun j hj => by
   obtain ⟨g',e,hc⟩:=hr j hj
   injection e with e; injection e with e _ _
   subst e
   rw [Nat.zero_add,List.getD_eq_getElem?_getD,List.getElem?_eq_getElem hj]; exact hc)
  rw [List.take_length,containsS_hasB2] at this
  exact this.mono fun e w' h => ⟨h.1,h.2.symm⟩
theorem indexS_any (L:List ByteArray) (j:Nat) (s:ByteArray) (g c:Nat) (w:World) (hl:L.length<=1048576) (hr:SRow w (some ⟨g,0,none⟩) L) (hj:j < L.length) (e:L[j]=s) (hne:∀ i (hi:i < j),L[i] ≠ s) :
  Calls Tryz.prog 67 #[.slice (some ⟨g,0,none⟩) L.length c,.string s] w fun e w' => e=.returned (.int .i64 (j:Nat))/\w=w':=by
 have:=Tryz.slices_Index_string g 0 L.length c L s w (Nat.le_refl _) (by omega) (fun j hj => by
  obtain ⟨g',e,hc⟩:=hr j hj
  injection e with e; injection e with e _ _
  subst e
  rw [Nat.zero_add,List.getD_eq_getElem?_getD,List.getElem?_eq_getElem hj]; exact hc)
 rw [Lib.idxOfS_hit L L.length j s hj (Nat.le_refl _) (by rw [List.getD_eq_getElem?_getD,List.getElem?_eq_getElem hj]; exact e) (fun i hi => by rw [List.getD_eq_getElem?_getD,List.getElem?_eq_getElem (by omega)]; exact hne i hi)] at this
 exact this.mono fun e w' h => ⟨h.1,h.2.symm⟩
def pathF (nm:Nat->ByteArray) (f:Nat->Nat) (a k:Nat):List ByteArray:=(List.range k).map fun i => nm (itN f a i)
theorem path_len (nm:Nat->ByteArray) (f:Nat->Nat) (a k:Nat):(pathF nm f a k).length=k:=by unfold pathF; simp
theorem path_succ (nm:Nat->ByteArray) (f:Nat->Nat) (a k:Nat):pathF nm f a (k + 1)=pathF nm f a k ++ [nm (itN f a k)]:=by unfold pathF; rw [List.range_succ,List.map_append]; rfl
theorem path_at (nm:Nat->ByteArray) (f:Nat->Nat) (a k i:Nat) (h:i < (pathF nm f a k).length):(pathF nm f a k)[i]=nm (itN f a i):=by simp [pathF]
def CycAt (nm:Nat->ByteArray) (f:Nat->Nat) (a n:Nat) (v:Value) (w:World):Prop :=
 ∃ k j g c,v=.slice (some ⟨g,j,none⟩) (k - j) c/\j < k/\k<=n/\itN f a k=itN f a j/\(∀ i i',i < k->i' < k->itN f a i=itN f a i'->i=i')/\∀ i,i < k - j->w.cell? ⟨g,j + i,none⟩=some (.string (nm (itN f a (j + i))))
def InjK (f:Nat->Nat) (a k:Nat):Prop:=∀ i i',i < k->i' < k->itN f a i=itN f a i'->i=i'
theorem nodup_it {f:Nat->Nat} {a:Nat}:∀ k,InjK f a k->((List.range k).map (itN f a)).Nodup
 | 0,_ => by simp
 | k + 1,h => by
  rw [List.range_succ,List.map_append,List.nodup_append]
  refine ⟨nodup_it k fun i i' hi hi' e => h i i' (by omega) (by omega) e,by simp,fun x hx y hy e => ?_⟩
  obtain ⟨i,hi,rfl⟩:=List.mem_map.1 hx
  rw [List.mem_range] at hi
  simp at hy
  subst hy
  have:=h i k (by omega) (by omega) e
  omega
theorem inj_le {f:Nat->Nat} {a k n:Nat} (h:InjK f a k) (hn:∀ i,itN f a i < n):k<=n:=by
 have:=nodup_bd n ((List.range k).map (itN f a)) (nodup_it k h) (fun x hx => by
  obtain ⟨i,_,rfl⟩:=List.mem_map.1 hx
  exact hn i)
 rwa [List.length_map,List.length_range] at this
theorem inj_step {f:Nat->Nat} {a k:Nat} (h:InjK f a k) (hk:∀ i,i < k->itN f a i ≠ itN f a k):InjK f a (k + 1):=fun i i' hi hi' e => by
 by_cases h1:i=k
 ·by_cases h2:i'=k
  ·omega
  ·subst h1; exact absurd e.symm (hk i' (by omega))
 ·by_cases h2:i'=k
  ·subst h2; exact absurd e (hk i (by omega))
  ·exact h i i' (by omega) (by omega) e
theorem path_has {nm:Nat->ByteArray} {f:Nat->Nat} {a k n:Nat} (hn:∀ i,itN f a i < n) (hinj:∀ i j,i < n->j < n->nm i=nm j->i=j):hasB (pathF nm f a k) (nm (itN f a k))=true ↔ ∃ i,i < k/\itN f a i=itN f a k:=by
 rw [hasB_true]
 unfold pathF
 rw [List.mem_map]
 constructor
 ·rintro ⟨i,hi,e⟩
  exact ⟨i,List.mem_range.1 hi,hinj _ _ (hn i) (hn k) e⟩
 ·rintro ⟨i,hi,e⟩
  exact ⟨i,List.mem_range.2 hi,by rw [e]⟩
def CInv (W1 w:World) (nm:Nat->ByteArray) (f:Nat->Nat) (a k:Nat) (v:Value) (wr:World):Prop :=
 InjK f a k/\wr.ownsRow (w.heap.size + 1) 9 1 v k (strV (pathF nm f a k))/\Below W1.heap.size W1 wr
set_option maxRecDepth 100000 in
set_option maxHeartbeats 4000000 in
theorem cycle_any (FA NA:Option Addr) (fc nc gR rc:Nat) (ns:List (List Nat)) (r:List Int) (nm:Nat->ByteArray) (n at0:Nat) (w:World) (hf:∀ V,Below w.heap.size w V->∀ i,i < n->∃ ad:Addr,FA=some ad/\V.cell? (ad.add (i * 9))=some (.string (nm i)))
  (hns:∀ V,Below w.heap.size w V->∀ i,i < n->∃ g Ai ci,NA=some ⟨g,0,none⟩/\V.cell? ⟨g,i,none⟩=some (.slice Ai (nd ns i).length ci)/\NtRow V Ai (nd ns i)) (hr:∀ j,j < n->w.cell? ⟨gR,j,none⟩=some (.int .i64 (rk r j))) (hgR:gR < w.heap.size)
  (hn:1<=n) (h14:n<=14) (hok:∀ i,i < n->(nd ns i).length<=1048576/\∀ j ∈ nd ns i,j < n) (hinj:∀ i j,i < n->j < n->nm i=nm j->i=j) (hun:∀ i,i < n->rk r i=-1->∃ j ∈ nd ns i,rk r j=-1) (hat:at0 < n) (hau:rk r at0=-1) :
  Calls Tryz.prog 106 #[.slice FA n fc,.slice NA n nc,.slice (some ⟨gR,0,none⟩) n rc,.int .i64 at0] w fun e w' => ∃ v,e=.returned v/\CycAt nm (nxtF ns r) at0 n v w'/\Below w.heap.size w w':=by
 have hit:∀ i,itN (nxtF ns r) at0 i < n/\rk r (itN (nxtF ns r) at0 i)=-1:=fun i => by
  induction i with
  | zero => exact ⟨hat,hau⟩
  | succ i ih =>
   obtain ⟨hk,e,hu⟩:=nxt_at (hun _ ih.1 ih.2)
   exact ⟨(hok _ ih.1).2 _ (by show nxtF ns r _ ∈ _; rw [← e]; exact List.getElem_mem hk),hu⟩
 have hhas:=fun k => path_has (nm:=nm) (f:=nxtF ns r) (a:=at0) (k:=k) (fun i => (hit i).1) hinj
 obtain ⟨i0,hi,hz0,hz1,hz2⟩:=info_parts1 NmA.infoStr
 obtain ⟨W1,hW1⟩:∃ V,w.alloc (.cells #[.slice (some ⟨gR,0,none⟩) n rc] 69)=V:=⟨_,rfl⟩
 have hb1:=b_new w (.cells #[.slice (some ⟨gR,0,none⟩) n rc] 69)
 rw [hW1] at hb1
 have hsz1:W1.heap.size=w.heap.size + 1:=by rw [← hW1]; simp
 have hbox:W1.cell? ⟨w.heap.size,0,none⟩=some (.slice (some ⟨gR,0,none⟩) n rc):=by
  rw [← hW1]; unfold World.cell?; rw [World.alloc_heap_new]; rfl
 have hr1:∀ V,Below W1.heap.size W1 V->∀ j,j < n->V.cell? ⟨gR,j,none⟩=some (.int .i64 (rk r j)):=fun V hV j hj => ((b_trans hb1 hV).cell (p:=⟨gR,j,none⟩) hgR).trans (hr j hj)
 have hbx:∀ V,Below W1.heap.size W1 V->V.cell? ⟨w.heap.size,0,none⟩=some (.slice (some ⟨gR,0,none⟩) n rc):=fun V hV => (hV.cell (p:=⟨w.heap.size,0,none⟩) (by dsimp only; omega)).trans hbox
 have HF:=Lib.hid hf
 have HNs:=Lib.hid hns
 have HR1:=Lib.hid hr1
 have HBx:=Lib.hid hbx
 have HOk:=Lib.hid hok
 have HUn:=Lib.hid hun
 have HIt:=Lib.hid hit
 have HHas:=Lib.hid hhas
 have HW1:=Lib.hid hW1
 have HB1:=Lib.hid hb1
 have HS1:=Lib.hid hsz1
 have HInj:=Lib.hid hinj
 have HgR:=Lib.hid hgR
 clear hf hns hr hgR hok hinj hun hat hau hit hhas hW1 hb1 hsz1 hbox hr1 hbx
 go_enter Tryz.func106,Tryz.ntmps106
 go_wp2_with fail
 rw [HW1.out]
 go_loopw [3,9,10] (fun a p _ wr => ∃ (k:Nat) (A:Option Addr) (c:Nat),a=.int .i64 (itN (nxtF ns r) at0 k:Nat)/\p=.slice A k c/\CInv W1 w nm (nxtF ns r) at0 k (.slice A k c) wr) (fun _ p _ _ => n - (match p with | .slice _ m _ => m | _ => 0))
 case atStart => exact ⟨0,none,0,rfl,rfl,fun i i' hi => absurd hi (by omega),World.ownsRow_nil _ _ _ _,Below.refl _ _⟩
 case round =>
  obtain ⟨k,A,c,rfl,rfl,hik,hown,hb⟩:=hrel
  have hkn:k<=n:=inj_le hik (fun i => (HIt.out i).1)
  have hown':wr.ownsRow (w.heap.size + 1) 9 1 (.slice A k c) (pathF nm (nxtF ns r) at0 k).length (strV (pathF nm (nxtF ns r) at0 k)):=by rw [path_len]; exact hown
  obtain ⟨A',c',hp,hsr⟩:=SRow.of_own hown'
  rw [path_len] at hp
  injection hp with hp1 hp2 hp3
  subst hp1 hp3
  clear hp2
  have hcon:=containsN_any (pathF nm (nxtF ns r) at0 k) (nm (itN (nxtF ns r) at0 k)) (.slice A k c) _ wr (by rw [path_len]; omega) hown'
  have hh:=HHas.out k
  have hnx:itN (nxtF ns r) at0 (k + 1)=nxtF ns r (itN (nxtF ns r) at0 k):=rfl
  obtain ⟨han,hau⟩:=HIt.out k
  have hstep:(∀ i,i < k->itN (nxtF ns r) at0 i ≠ itN (nxtF ns r) at0 k)->InjK (nxtF ns r) at0 (k + 1):=fun h => inj_step hik h
  have hps:=path_succ nm (nxtF ns r) at0 k
  have hpa:=path_at nm (nxtF ns r) at0 k
  have hpl:=path_len nm (nxtF ns r) at0 k
  have hend:∀ j g c,j < k->itN (nxtF ns r) at0 j=itN (nxtF ns r) at0 k->A=some ⟨g,0,none⟩->CycAt nm (nxtF ns r) at0 n (.slice (some ⟨g,j,none⟩) (k - j) c) wr:=fun j g c hj e eA => by
   refine ⟨k,j,g,c,rfl,hj,hkn,e.symm,hik,fun i hi => ?_⟩
   obtain ⟨g',e',hc⟩:=hsr (j + i) (by rw [path_len]; omega)
   rw [eA] at e'
   injection e' with e'; injection e' with e' _ _
   subst e'
   rw [hc,path_at]
  have hne:∀ j,j < k->itN (nxtF ns r) at0 j=itN (nxtF ns r) at0 k->∀ i (hi:i < j) (h:i < (pathF nm (nxtF ns r) at0 k).length),(pathF nm (nxtF ns r) at0 k)[i] ≠ nm (itN (nxtF ns r) at0 k):=fun j hj e i hi h e2 => by
   rw [path_at] at e2
   have h3:=HInj.out _ _ (HIt.out i).1 (HIt.out k).1 e2
   have:=hik i j (by omega) hj (h3.trans e.symm)
   omega
  generalize pathF nm (nxtF ns r) at0 k=pth at *
  generalize itN (nxtF ns r) at0 k=a at *
  obtain ⟨ad,rfl,hca⟩:=HF.out wr (b_trans HB1.out hb) a han
  have hai:(a:Int) < (n:Int):=by omega
  have ha0:(0:Int)<=(a:Int):=by omega
  have Hb:=Lib.hid hb
  cases hB:hasB pth (nm a) with
  | false =>
   rw [hB] at hcon
   have hij:=hstep (fun i hi e => by have:=hh.2 ⟨i,hi,e⟩; rw [hB] at this; cases this)
   have hkn1:k + 1<=n:=inj_le hij (fun i => (HIt.out i).1)
   obtain ⟨him,hie,hiu⟩:=nxt_at (HUn.out a han hau)
   have hnsa:=fun V hV => HNs.out V hV a han
   have hfu:∀ V Ai ci,Below W1.heap.size W1 V->NtRow V Ai (nd ns a)->Calls Tryz.prog 86 #[.slice Ai (nd ns a).length ci,.func (.func 135) #[] #[.pointer (some ⟨w.heap.size,0,none⟩)]] V fun e w' => e=.returned (.int .i64 ((nd ns a).findIdx (unB r):Nat))/\∃ q,w'=V.drewN q:=fun V Ai ci hV hnt =>
    firstUn_any r n w.heap.size gR rc (nd ns a) Ai ci V hn (by omega) (HOk.out a han).2 (HOk.out a han).1 hnt (by have:=hV.size; have:=HS1.out; omega) (by have:=hV.size; have:=HS1.out; have:=HgR.out; omega) (HBx.out V hV) (HR1.out V hV) him
   generalize (nd ns a).findIdx (unB r)=m at him hie hfu
   generalize nxtF ns r a=a2 at hie hnx
   have hown1:∀ o:Obj,(wr.alloc o).ownsRow (w.heap.size + 1) 9 1 (.slice A k c) k (strV pth):=fun o => hown.alloc o
   have hown9:∀ gg cap w6,w6.ownsRow (w.heap.size + 1) 9 1 (.slice (some ⟨gg,0,none⟩) (k + 1) cap) (k + 1) (strV pth ++ [.string (nm a)])->∀ w7,Below w6.heap.size w6 w7->w7.ownsRow (w.heap.size + 1) 9 1 (.slice (some ⟨gg,0,none⟩) (k + 1) cap) (k + 1) (strV (pathF nm (nxtF ns r) at0 (k + 1))):=fun gg cap w6 h w7 hV => by
    rw [hps,strV_append]
    exact GenL.own_below h hV
   have hgrw:∀ (o:Obj) (w6:World),(wr.alloc o).grownBy w6 (Value.slice A k c).ownBlock->Below W1.heap.size W1 w6:=fun o w6 hg =>
    (b_trans hb (b_new wr o)).grown hg (b_trans hb (b_new wr o)).size (fun g e => by have:=(hown.lt g e).1; have:=HS1.out; omega)
   have hsz:=hb.size
   have hs1:=HS1.out
   have hszw:w.heap.size + 1<=wr.heap.size:=by omega
   have HOwn1:=Lib.hid hown1
   have HOwn9:=Lib.hid hown9
   have HGrw:=Lib.hid hgrw
   have HCon:=Lib.hid hcon
   have HIj:=Lib.hid hij
   have HNx:=Lib.hid hnx
   have HNsa:=Lib.hid hnsa
   have HFu:=Lib.hid hfu
   have HIe:=Lib.hid hie
   clear hown1 hown9 hgrw hcon hij hnx hnsa hfu hne hend hpa hps hstep hh hsr hown' hown hik hb hB hsz hs1 hiu hau HBx HR1 HOk HUn HIt HHas HW1 HS1 HInj HgR HF HNs
   go_wp2_with (first
    | (go_at_call 34; refine HCon.out.mono ?_; rintro e w5 ⟨rfl,rfl⟩)
    | (at_builtin; refine wpList_append_lies _ rfl _ _ 64 rfl (w.heap.size + 1) 9 i0 (.string ⟨#[]⟩) 1 16 Tryz.underlying64 hi hz0 hz1 hz2 rfl (by decide) (.slice A k c) k (strV pth) rfl (HOwn1.out _) ⟨wr.heap.size,0,none⟩ 1 1 [.string (nm a)] rfl rfl (World.news_of_block (cs:=#[.string (nm a)]) (t:=9) (fr:=(0,0)) (World.alloc_heap_new wr _)) (by simp [Value.oneCell']) (by decide) (by unfold maxLen; omega) (by omega) (by simp; omega) (wr.heap.size + 1) (by simp) ?_))
   intro gg cap w6 hown6 hgrow6 _ _
   have hb6:=HGrw.out _ _ hgrow6
   obtain ⟨gN,Ai,ci,rfl,hcN,hntr⟩:=HNsa.out w6 (b_trans HB1.out hb6)
   have hfu:=HFu.out w6 Ai ci hb6 hntr
   have HFu2:=Lib.hid hfu
   have HOwn6:=Lib.hid hown6
   have HB6:=Lib.hid hb6
   have HNt:=Lib.hid hntr
   clear hfu hown6 hgrow6 hb6 hntr
   go_wp2_with fail
   refine HFu2.out.mono ?_; rintro e w7 ⟨rfl,hq⟩
   have hb67:Below w6.heap.size w6 w7:=by obtain ⟨q,rfl⟩:=hq; exact b_drewN (Below.refl _ _) q
   have hcN7:=(hb67.cell (p:=⟨gN,a,none⟩) (World.block_lt_of_cell? w6 _ hcN)).trans hcN
   obtain ⟨gA,rfl,hcA⟩:=(HNt.out.below hb67) m him
   rw [HIe.out] at hcA
   have hown7:=HOwn9.out _ _ _ HOwn6.out w7 hb67
   have HI7:=Lib.hid (show CInv W1 w nm (nxtF ns r) at0 (k + 1) (.slice (some ⟨gg,0,none⟩) (k + 1) cap) w7 from ⟨HIj.out,hown7,b_trans HB6.out hb67⟩)
   have hmi:(m:Int) < ((nd ns a).length:Int):=by omega
   have hm0:(0:Int)<=(m:Int):=by omega
   clear hie HIe hq hb67 hown7 hcN HFu2 HOwn6 HNt HOwn9 HFu HNsa HGrw HOwn1 HCon
   generalize (nd ns a).length=L at him hcN7 hmi
   go_wp2_with fail
   go_roundw
   case rel => exact ⟨k + 1,_,_,by rw [HNx.out],by go_num,HI7.out⟩
   case measure => simp; omega
  | true =>
   rw [hB] at hcon
   obtain ⟨j,hjk,hje⟩:=hh.1 hB
   obtain ⟨g,cap,hv,_,_,hkc,_,_⟩:=GenL.own_form hown (by omega)
   injection hv with hv1 hv2 hv3
   subst hv1 hv3
   have hix:=indexS_any pth j (nm a) g c wr (by omega) hsr (by omega) (by rw [hpa,hje]) (fun i hi => hne j hjk hje i hi _)
   rw [hpl] at hix
   have hfin:=hend j g (c - j) hjk hje rfl
   have hcj:¬ c=j:=by omega
   have hjk2:j<=k:=by omega
   have hji:(j:Int)<=(k:Int):=by omega
   have HIx:=Lib.hid hix
   have HCon:=Lib.hid hcon
   have HFin:=Lib.hid hfin
   clear hix hcon hfin hne hend hpa hpl hps hstep hnx hh hsr hown' hown hik hb hB hje hv2 hau han hkn hjk
   go_wp2_with (first
    | (go_at_call 34; refine HCon.out.mono ?_; rintro e w5 ⟨rfl,rfl⟩)
    | (go_at_call 67; refine HIx.out.mono ?_; rintro e w5 ⟨rfl,rfl⟩))
   go_ret
   exact ⟨_,rfl,HFin.out,b_trans HB1.out Hb.out⟩
def nmF (fs:List GenL.Fd) (i:Nat):ByteArray:=((fs[i]?).map GenL.Fd.nm).getD ⟨#[]⟩
theorem nmF_at (fs:List GenL.Fd) (i:Nat) (h:i < fs.length):nmF fs i=fs[i].nm:=by unfold nmF; rw [List.getElem?_eq_getElem h]; rfl
set_option maxRecDepth 100000 in
set_option maxHeartbeats 4000000 in
theorem of_cyc (fs:List GenL.Fd) (X:Nat->Ex) (FA:Option Addr) (fc at0:Nat) (w:World) (hm:fs.length<=14) (hf:Flds w FA fs) (hX:Forms w fs X) (hT:Tab w) (hcap:fs.length<=fc/\fc<=maxLen) (h0:checkF fs X=0)
  (hat:at0 < fs.length) (hau:rk (rankF (needsF fs X)) at0=-1) (hfst:∀ j,j < at0->rk (rankF (needsF fs X)) j ≠ -1) (hinj:∀ i j,i < fs.length->j < fs.length->nmF fs i=nmF fs j->i=j) :
  Calls Tryz.prog 78 #[.slice FA fs.length fc] w fun e w' => ∃ v,e=.returned (.tuple #[.slice none 0 0,v,.int .i64 10])/\CycAt (nmF fs) (nxtF (needsF fs X) (rankF (needsF fs X))) at0 fs.length v w'/\Below w.heap.size w w':=by
 have hc:=FldC.check_any fs X FA fc w (Nat.le_trans hm (by decide)) hf hX hT hcap
 rw [h0] at hc
 clear h0
 have hd:∀ V:World,Below w.heap.size w V->Calls Tryz.prog 64 #[.slice FA fs.length fc] V (DirOut (needsF fs X) V):=fun V hV => direct_any fs X FA fc V hm (hf.below hV) (hX.below hV) (hT.below hV)
 have hok:=needsF_ok fs X hm
 have hnl:=needsF_len fs X
 obtain ⟨ns,hns⟩:∃ ns,needsF fs X=ns:=⟨_,rfl⟩
 rw [hns] at hd hok hnl hau hfst ⊢
 have hix:Lib.idxOf (rankF ns) (-1)=at0:=by
  have:=Lib.idxOf_hit (rankF ns) (rankF ns).length at0 (-1) (by rw [rankF_len,hnl]; exact hat) (Nat.le_refl _) hau hfst
  rwa [List.take_length] at this
 have hun:=un_needs (rankF_fix ns) (fun i => (bd_pass ns ns.length i).1)
 have hnm:∀ V,Below w.heap.size w V->∀ i,i < fs.length->∃ ad:Addr,FA=some ad/\V.cell? (ad.add (i * 9))=some (.string (nmF fs i)):=fun V hV i hi => by
  obtain ⟨ad,e,h⟩:=hf.below hV i hi
  exact ⟨ad,e,by rw [nmF_at fs i hi]; exact h.1⟩
 rw [hnl] at hun
 have hok2:=hok
 unfold Okn at hok2
 rw [hnl] at hok2
 have HC:=Lib.hid hc
 have HD:=Lib.hid hd
 have HI:=Lib.hid hix
 have HNl:=Lib.hid hnl
 have HUn:=Lib.hid hun
 have HOk2:=Lib.hid hok2
 have HNm:=Lib.hid hnm
 have HInj:=Lib.hid hinj
 have HAu:=Lib.hid hau
 have hn1:1<=fs.length:=by omega
 clear hnl hc hns hf hX hT hd hix hfst hun hok2 hnm hinj hau
 generalize nmF fs=nm at HNm HInj ⊢
 generalize fs.length=n at *
 go_enter Tryz.func78,Tryz.ntmps78
 go_wp2_with fail
 refine HC.out.mono ?_; rintro e w1 ⟨rfl,hb⟩
 have HB:=Lib.hid hb
 clear hb
 go_wp2_with fail
 refine (HD.out w1 HB.out).mono ?_; rintro e w2 ⟨A2,c2,rfl,hns2,hb2,-⟩
 have hrk:=ranked_any ns A2 c2 w2 hok hns2
 rw [HNl.out] at hrk ⊢
 have HR:=Lib.hid hrk
 have HB2:=Lib.hid (b_trans HB.out hb2)
 have HNs2:=Lib.hid hns2
 clear hrk hns2 hb2
 go_wp2_with fail
 refine HR.out.mono ?_; rintro e w3 ⟨v3,rfl,hown3,hb3⟩
 have hin:=index_any (rankF ns) (-1) v3 w2.heap.size w3 (by rw [rankF_len,HNl.out]; omega) (by rw [rankF_len]; exact hown3)
 rw [HI.out] at hin
 obtain ⟨gR,rc,rfl,_,hgl,_,_,hcl⟩:=GenL.own_form hown3 (by rw [HNl.out]; omega)
 rw [HNl.out] at hin
 have HIn:=Lib.hid hin
 have hcyc:=cycle_any FA A2 fc c2 gR rc ns (rankF ns) nm n at0 w3 (fun V hV => HNm.out V (b_trans HB2.out (b_trans hb3 hV))) (fun V hV i hi => by
  obtain ⟨g,e,Ai,ci,h1,h2⟩:=(HNs2.out.below (b_trans hb3 hV)) i (by rw [HNl.out]; exact hi)
  exact ⟨g,Ai,ci,e,h1,h2⟩) (fun j hj => by
  rw [hcl j (by rw [HNl.out]; omega),iV_at _ _ (by rw [rankF_len,HNl.out]; exact hj)]) hgl hn1 hm HOk2.out.2 HInj.out HUn.out hat HAu.out
 have HCyc:=Lib.hid hcyc
 have HB3:=Lib.hid (b_trans HB2.out hb3)
 rw [HNl.out]
 clear hb3 hown3 hin hcl hcyc hgl
 go_wp2_with fail
 refine HIn.out.mono ?_; rintro e w4 ⟨rfl,rfl⟩
 have hge:(0:Int)<=(at0:Int):=by omega
 go_wp2_with fail
 refine HCyc.out.mono ?_; rintro e w5 ⟨v,rfl,hv,hb5⟩
 have HV:=Lib.hid hv
 have HB5:=Lib.hid (b_trans HB3.out hb5)
 clear hv hb5
 go_wp2_with fail
 exact bodyPost_ret (v:=.tuple #[.slice none 0 0,v,.int .i64 10]) (by simp [results,Tryz.results78,go_sem]) rfl ⟨v,rfl,HV.out,HB5.out⟩
end Go.Proofs.YtonlkmkfcaadlaaGreatDoor.CycO
namespace Go.Proofs.YtonlkmkfcaadlaaGreatDoor.RkV
open Go.RowKit
open ExM NmM Kit RkM RkA RkB RkC RkD RkO RkL CycO SMp
set_option linter.unusedVariables false
end Go.Proofs.YtonlkmkfcaadlaaGreatDoor.RkV
namespace Go.Proofs.YtonlkmkfcaadlaaGreatDoor.RkW
open Go.RowKit Go.Maps
open ValM LexM NumM ExM NmM Kit ExL ExP ExN ExC RawV Within RawL GenL FldP FldR FldC TyM Ty NmO NmA NmI NmT NmR RkM RkA RkB RkC RkD RkO RkL CycO SMp RkV
set_option linter.unusedVariables false
end Go.Proofs.YtonlkmkfcaadlaaGreatDoor.RkW
namespace Go.Proofs.YtonlkmkfcaadlaaGreatDoor.RkX
open Go.RowKit
open ValM LexM NumM ExM NmM Kit ExL ExP ExN ExC RawV Within RawL GenL FldP FldR FldC TyM Ty NmO NmA NmI NmT NmR RkM RkA RkB RkC RkD RkO RkL CycO SMp RkV RkW
set_option linter.unusedVariables false
end Go.Proofs.YtonlkmkfcaadlaaGreatDoor.RkX
namespace Go.Proofs.YtonlkmkfcaadlaaGreatDoor.RkY
open Go.RowKit
open ValM LexM NumM ExM NmM Kit ExL ExP ExN ExC RawV Within RawL GenL FldP FldR FldC TyM Ty NmO NmA NmI NmT NmR RkM RkA RkB RkC RkD RkO RkL CycO SMp RkV RkW RkX EvP
set_option linter.unusedVariables false
theorem valid_own {fs:List GenL.Fd} {X:Nat->Ex} (h0:checkF fs X=0):fs.length<=14/\(∀ k (hk:k < fs.length),rightE fs[k] (X k)=0/\atF fs fs[k].nm=k)/\∀ k (hk:k < fs.length),srcE fs fs[k] (X k)=0:=by
 unfold checkF at h0
 by_cases hl:14 < fs.length
 ·rw [if_pos hl] at h0; exact absurd h0 (by decide)
 ·rw [if_neg hl] at h0
  have hz:∀ (P:Nat->Int) (n:Nat),scan P n=0->∀ j,j < n->P j=0:=fun P n => by
   induction n with
   | zero => intro _ j hj; omega
   | succ n ih =>
    intro h j hj
    unfold scan at h
    by_cases e:scan P n=0
    ·rw [if_pos e] at h
     by_cases h2:j=n
     ·subst h2; exact h
     ·exact ih e j (by omega)
    ·rw [if_neg e] at h; exact absurd h e
  by_cases h1:scan (ownE fs X) fs.length=0
  ·rw [if_pos h1] at h0
   refine ⟨by omega,fun k hk => ?_,fun k hk => ?_⟩
   ·have h2:=hz _ _ h1 k hk
    unfold ownE at h2
    rw [dif_pos hk] at h2
    by_cases h3:rightE fs[k] (X k)=0
    ·rw [if_pos h3] at h2
     by_cases h4:atF fs fs[k].nm < k
     ·rw [if_pos h4] at h2; exact absurd h2 (by decide)
     ·refine ⟨h3,?_⟩
      rcases Nat.lt_or_ge k (atF fs fs[k].nm) with h5 | h5
      ·exfalso
       by_cases h6:atF fs fs[k].nm < fs.length
       ·exact (atF_at h6).2 k hk h5 rfl
       ·by_cases h7:∃ j,∃ hj:j < fs.length,fs[j].nm=fs[k].nm/\∀ i (hi:i < fs.length),i < j->fs[i].nm ≠ fs[k].nm
        ·obtain ⟨j,hj,e,hm⟩:=h7
         have:=atF_eq fs fs[k].nm j hj hm e
         omega
        ·have h8:∀ j (hj:j < fs.length),fs[j].nm ≠ fs[k].nm:=fun j => by
          refine Nat.strongRecOn j fun j ih hj e => h7 ⟨j,hj,e,fun i hi hij => ih i hij hi⟩
         exact h8 k hk rfl
      ·omega
    ·rw [if_neg h3] at h2; exact absurd h2 h3
   ·have h2:=hz _ _ h0 k hk
    unfold typE at h2
    rwa [dif_pos hk] at h2
  ·rw [if_neg h1] at h0; exact absurd h0 h1
theorem valid_inj {fs:List GenL.Fd} {X:Nat->Ex} (h0:checkF fs X=0) (i j:Nat) (hi:i < fs.length) (hj:j < fs.length) (e:nmF fs i=nmF fs j):i=j:=by
 obtain ⟨_,h,_⟩:=valid_own h0
 rw [nmF_at fs i hi,nmF_at fs j hj] at e
 rw [← (h i hi).2,e,(h j hj).2]
end Go.Proofs.YtonlkmkfcaadlaaGreatDoor.RkY
