/- WhMath FldTurn Wh14 Vls Wh15 Wh16: what these laws name of them. -/
import Derived.Test.YtonlkmkfcaadlaaGreatDoorKw23
import Derived.Lib.AppendZeros
namespace Go.Proofs.YtonlkmkfcaadlaaGreatDoor
set_option linter.unusedVariables false
namespace WhM
open NumM ValM ExM NmM TyM StrM EvM EvP FoM
set_option linter.unusedVariables false
theorem fix_unique {ins orc:List Fo} {F:List Fw} {ρ:ByteArray->Nat} (hF:Wk F ρ) {vs us:List Vl} (lv:vs.length=F.length) (lu:us.length=F.length) (hv:OkL vs) (hu:OkL us)
  (ev:nextV ins orc F vs=vs) (eu:nextV ins orc F us=us):vs=us:=by
 have key:∀ (m:Nat) (i:Nat) (h:i < F.length),ρ F[i].nm < m->vs[i]'(by omega)=us[i]'(by omega):=by
  intro m
  induction m with
  | zero => intro i h hr; omega
  | succ m ih =>
   intro i h hr
   have e1:(nextV ins orc F vs)[i]'(by rw [next_len]; exact h)=vs[i]'(by omega):=by simp only [ev]
   have e2:(nextV ins orc F us)[i]'(by rw [next_len]; exact h)=us[i]'(by omega):=by simp only [eu]
   rw [← e1,← e2,next_at _ _ _ _ i h,next_at _ _ _ _ i h]
   exact agree hF hv hu lv lu ih i h (by omega)
 refine List.ext_getElem (by omega) fun i h1 h2 => key F.length i (by omega) (hF.lt _ (List.getElem_mem _))
theorem all_of_fix {ins orc:List Fo} {F:List Fw} {ρ:ByteArray->Nat} (hF:Wk F ρ) (hi:Oks ins) (ho:Oks orc) {vs:List Vl} (lv:vs.length=F.length) (hv:OkL vs) (ev:nextV ins orc F vs=vs):vs=allV ins orc F :=
 fix_unique hF lv (all_len _ _ _) hv (all_ok hF hi ho) ev (all_fix hF hi ho)
def turn {α:Type} (l:List α) (k:Nat):List α:=l.drop k ++ l.take k
theorem turn_mem {α:Type} {l:List α} {k:Nat} {a:α}:a ∈ turn l k ↔ a ∈ l:=by
 unfold turn
 rw [List.mem_append]
 conv => rhs; rw [← List.take_append_drop k l,List.mem_append]
 exact Or.comm
theorem turn_len {α:Type} (l:List α) (k:Nat):(turn l k).length=l.length:=by unfold turn; simp; omega
theorem turn_map {α β:Type} (f:α->β) (l:List α) (k:Nat):(turn l k).map f=turn (l.map f) k:=by unfold turn; simp [List.map_take,List.map_drop]
theorem apart_iff {F:List Fw}:Apart F ↔ (F.map Fw.nm).Nodup:=by
 unfold List.Nodup Apart
 rw [List.pairwise_iff_getElem]
 constructor
 ·intro h i j hi hj hij
  rw [List.length_map] at hi hj
  rw [List.getElem_map,List.getElem_map]
  intro e
  have:=h i j hi hj e
  omega
 ·intro h i j hi hj e
  rcases Nat.lt_trichotomy i j with g | g | g
  ·exact absurd (by rw [List.getElem_map,List.getElem_map]; exact e) (h i j (by rw [List.length_map]; exact hi) (by rw [List.length_map]; exact hj) g)
  ·exact g
  ·exact absurd (by rw [List.getElem_map,List.getElem_map]; exact e.symm) (h j i (by rw [List.length_map]; exact hj) (by rw [List.length_map]; exact hi) g)
theorem turn_wk {F:List Fw} {ρ:ByteArray->Nat} (h:Wk F ρ) (k:Nat):Wk (turn F k) ρ where
 apart:=by
  rw [apart_iff,turn_map]
  have h1:=apart_iff.1 h.apart
  have:(turn (F.map Fw.nm) k).Perm (F.map Fw.nm):=by
   unfold turn
   conv => rhs; rw [← List.take_append_drop k (F.map Fw.nm)]
   exact List.perm_append_comm
  exact this.nodup_iff.2 h1
 lt:=fun f hf => by rw [turn_len]; exact h.lt f (turn_mem.1 hf)
 dep:=fun f hf h1 s hs ⟨g,hg,e⟩ => h.dep f (turn_mem.1 hf) h1 s hs ⟨g,turn_mem.1 hg,e⟩
 ty:=fun f hf => h.ty f (turn_mem.1 hf)
 src:=fun f hf => h.src f (turn_mem.1 hf)
theorem turn_fact {F:List Fw} {vs:List Vl} (ha:Apart F) (k:Nat) (hk:k<=F.length) (lv:vs.length=F.length) (hb:Apart (turn F k)) (s:ByteArray):factV (named (turn F k) (turn vs k)) s=factV (named F vs) s:=by
 by_cases hex:∃ g ∈ F,g.nm=s
 ·obtain ⟨g,hg,rfl⟩:=hex
  obtain ⟨j,hj,rfl⟩:=List.getElem_of_mem hg
  rw [named_fact ha lv j hj]
  have e:∃ (i:Nat) (h1:i < (turn F k).length),(turn F k)[i]=F[j]/\(turn vs k)[i]'(by rw [turn_len,lv,← turn_len F k]; exact h1)=vs[j]'(by omega):=by
   by_cases hjk:j < k
   ·refine ⟨F.length - k + j,by rw [turn_len]; omega,?_,?_⟩
    ·unfold turn
     rw [List.getElem_append_right (by simp)]
     simp
    ·unfold turn
     rw [List.getElem_append_right (by simp; omega)]
     simp [lv]
   ·refine ⟨j - k,by rw [turn_len]; omega,?_,?_⟩
    ·unfold turn
     rw [List.getElem_append_left (by simp; omega),List.getElem_drop]
     simp only [show k + (j - k)=j by omega]
    ·unfold turn
     rw [List.getElem_append_left (by simp; omega),List.getElem_drop]
     simp only [show k + (j - k)=j by omega]
  obtain ⟨i,h1,e1,e2⟩:=e
  rw [← e1,named_fact hb (by rw [turn_len,turn_len,lv]) i h1,e2]
 ·rw [named_no (by rw [turn_len,turn_len,lv]) fun f hf e => hex ⟨f,turn_mem.1 hf,e⟩,named_no lv fun f hf e => hex ⟨f,hf,e⟩]
theorem all_turned {ins orc:List Fo} {F:List Fw} {ρ:ByteArray->Nat} (hF:Wk F ρ) (hi:Oks ins) (ho:Oks orc) (k:Nat) (hk:k<=F.length):allV ins orc (turn F k)=turn (allV ins orc F) k:=by
 have hG:=turn_wk hF k
 have hok:OkL (turn (allV ins orc F) k):=fun v hv => all_ok hF hi ho v (turn_mem.1 hv)
 refine (all_of_fix hG hi ho (by rw [turn_len,turn_len,all_len]) hok ?_).symm
 conv => rhs; rw [← all_fix hF hi ho]
 unfold nextV
 rw [← turn_map]
 refine List.map_congr_left fun f hf => one_congr fun h1 => ?_
 have hs:=hG.src f hf h1
 rw [of_ev hok hs,of_ev (all_ok hF hi ho) hs]
 exact ev_local _ _ _ fun s _ => turn_fact hF.apart k hk (all_len _ _ _) hG.apart s
end WhM
namespace FldU
open Go.RowKit
open ValM LexM NumM ExM NmM Kit ExL ExP ExN ExC RawV Within RawL RawN GenL Gen GenT GenV FrmM Frm FldP FldR FldC FrmT FrmO TyM Ty RkM RegI
set_option linter.unusedVariables false
theorem info_parts9 {t:TypeId} {z:Value} {s b:Nat} (h:(Tryz.prog.info? t).map (fun i => (i.zero,i.size,i.bytes))=some (some z,s,b)):∃ i0,Tryz.prog.info? t=some i0/\i0.zero=some z/\i0.size=s/\i0.bytes=b:=by
 cases hi:Tryz.prog.info? t with
 | none => rw [hi] at h; cases h
 | some i0 =>
  rw [hi] at h
  simp only [Option.map_some,Option.some.injEq,Prod.mk.injEq] at h
  exact ⟨i0,rfl,h.1,h.2.1,h.2.2⟩
theorem infoFd9:(Tryz.prog.info? 43).map (fun i => (i.zero,i.size,i.bytes))=some (some (.agg #[.string ⟨#[]⟩,.int .i64 0,.int .i64 0,.int .i64 0,.int .i64 0,.int .i64 0,.string ⟨#[]⟩,.string ⟨#[]⟩,.slice none 0 0]),9,112):=by kernel_rfl
def GrowOut (w:World) (e:Ending) (w':World):Prop :=
 ∃ g cap,e=.returned (.slice (some ⟨g,0,none⟩) 0 cap)/\w'.ownsRow w.heap.size 43 9 (.slice (some ⟨g,0,none⟩) 0 cap) 0 []/\Below w.heap.size w w'
set_option maxRecDepth 100000 in
set_option maxHeartbeats 4000000 in
theorem grow_any (n:Nat) (w:World) (h0:0 < n) (hn:n<=1000):Calls Tryz.prog 54 #[.slice none 0 0,.int .i64 n] w (GrowOut w):=by
 obtain ⟨i0,hi,hz0,hz1,hz2⟩:=info_parts9 infoFd9
 have hrun:=fun (V:World) (ty:TypeId) => Lib.run_append_nil_zeros (P:=Tryz.prog) V 23 3 ty 43 i0 _ .i64 .i64 Tryz.underlying23 Tryz.underlying3 hi hz0 n h0 (by omega) (by omega) (by rw [hz2]; omega)
 have hfin:GrowOut w (.returned (.slice (some ⟨w.heap.size,0,none⟩) 0 (grownCap w n 0 43))) (w.drew.alloc (.cells (Builtin.zeroCells (Value.agg #[.string ⟨#[]⟩,.int .i64 0,.int .i64 0,.int .i64 0,.int .i64 0,.int .i64 0,.string ⟨#[]⟩,.string ⟨#[]⟩,.slice none 0 0]).cells n ++ Builtin.zeroCells (Value.agg #[.string ⟨#[]⟩,.int .i64 0,.int .i64 0,.int .i64 0,.int .i64 0,.int .i64 0,.string ⟨#[]⟩,.string ⟨#[]⟩,.slice none 0 0]).cells (grownCap w n 0 43 - n)) 43)):=by
  have hge:=grownCap_ge w n 0 43
  have hle:=grownCap_le_maxLen w n 0 43 (by unfold maxLen; omega)
  refine ⟨w.heap.size,_,rfl,?_,b_more (b_drew (Below.refl _ _)) _⟩
  have:=World.ownsRow_made (base:=w.heap.size) (size:=9) (e:=43) w.drew (Builtin.zeroCells (Value.agg #[.string ⟨#[]⟩,.int .i64 0,.int .i64 0,.int .i64 0,.int .i64 0,.int .i64 0,.string ⟨#[]⟩,.string ⟨#[]⟩,.slice none 0 0]).cells n ++ Builtin.zeroCells (Value.agg #[.string ⟨#[]⟩,.int .i64 0,.int .i64 0,.int .i64 0,.int .i64 0,.int .i64 0,.string ⟨#[]⟩,.string ⟨#[]⟩,.slice none 0 0]).cells (grownCap w n 0 43 - n)) (grownCap w n 0 43) (Nat.le_refl _) hle (by simp [Builtin.zeroCells,Value.cells]; omega)
  exact this
 obtain ⟨g,cap,W,hr,hf⟩:∃ g cap W,(∀ ty,(Builtin.append_ #[23,3] ty #[.slice none 0 0,.int .i64 n]).run Tryz.prog w=.ok (.slice (some ⟨g,0,none⟩) n cap) W)/\GrowOut w (.returned (.slice (some ⟨g,0,none⟩) 0 cap)) W:=⟨_,_,_,fun ty => hrun w ty,hfin⟩
 have HR:=Lib.hid hr
 have HF:=Lib.hid hf
 have n1:¬ (n:Int) < 0:=by omega
 have n2:(0:Int) < (n:Int):=by omega
 have n3:(n:Int)<=1000:=by omega
 clear hrun hfin hr hf hi hz0 hz1 hz2
 go_enter Tryz.func54,Tryz.ntmps54
 go_wp2_with (at_builtin; refine Lib.wpList_append_run _ rfl _ _ _ _ rfl _ _ rfl rfl _ _ (HR.out _) ?_)
 go_ret
 exact HF.out
def SlC (w:World) (ad:Addr) (es:List FE):Prop:=∀ j u,(feC es)[j]?=some u->w.cell? (ad.add j)=some u
theorem SlC.below {w w':World} {ad:Addr} {es:List FE} (h:SlC w ad es) (hb:Below w.heap.size w w'):SlC w' ad es:=fun j u hu => by
 have:=h j u hu
 exact (hb.cell (World.block_lt_of_cell? w _ this)).trans this
theorem feC_one:∀ (es:List FE),∀ u ∈ feC es,u.oneCell'=true
 | [],u,h => by simp [feC] at h
 | e :: l,u,h => by
  have h:u ∈ fdC e.fd ++ feC l:=h
  rcases List.mem_append.1 h with h | h
  ·simp [fdC] at h
   rcases h with rfl | rfl | rfl | rfl | rfl | rfl | rfl | rfl | rfl <;> rfl
  ·exact feC_one l u h
def OwnF (w:World) (es:List FE) (o:Value) (w':World):Prop :=
 ∃ g cap,o=.slice (some ⟨g,0,none⟩) es.length cap/\w'.ownsRow w.heap.size 43 9 (.slice (some ⟨g,0,none⟩) es.length cap) es.length (feC es)/\Below w.heap.size w w'
theorem OwnF.step {w wr w':World} {a b:List FE} {g cap n:Nat} {v':Value} (h1:wr.ownsRow w.heap.size 43 9 (.slice (some ⟨g,0,none⟩) a.length cap) a.length (feC a)) (hb:Below w.heap.size w wr) (h2:w'.ownsRow w.heap.size 43 9 v' n (feC a ++ feC b)) (hnn:a.length + b.length=n) (h3:wr.grownBy w' (Value.slice (some ⟨g,0,none⟩) a.length cap).ownBlock) (hn:0 < a.length + b.length):OwnF w (a ++ b) v' w':=by
 subst hnn
 obtain ⟨g2,cap2,rfl,_,_⟩:=h2.form hn
 refine ⟨g2,cap2,by rw [List.length_append],by rw [List.length_append,feC_app]; exact h2,hb.grown h3 hb.size (fun k e => (h1.lt k e).1)⟩
def ConOut (es:List FE) (w:World) (e:Ending) (w':World):Prop:=∃ o,e=.returned o/\OwnF w es o w'
set_option maxRecDepth 100000 in
set_option maxHeartbeats 4000000 in
theorem concat_any (b:Nat) (a1 a2:Addr) (pc c1 c2:Nat) (es1 es2:List FE) (w:World) (h1:w.cell? ⟨b,0,none⟩=some (.slice (some a1) es1.length c1)) (h2:w.cell? ⟨b,1,none⟩=some (.slice (some a2) es2.length c2))
  (hs1:SlC w a1 es1) (hs2:SlC w a2 es2) (hn:0 < es1.length) (hm:es1.length + es2.length<=10):Calls Tryz.prog 22 #[.slice (some ⟨b,0,none⟩) 2 pc] w (ConOut (es1 ++ es2) w):=by
 obtain ⟨i0,hi,hz0,hz1,hz2⟩:=info_parts9 infoFd9
 obtain ⟨N,hN⟩:∃ N,es1.length + es2.length=N:=⟨_,rfl⟩
 have hg:=grow_any N w (by omega) (by omega)
 have HG:=Lib.hid hg
 have HS1:=Lib.hid hs1
 have HS2:=Lib.hid hs2
 have HH1:=Lib.hid h1
 have HH2:=Lib.hid h2
 clear hg hs1 hs2
 go_enter Tryz.func22,Tryz.ntmps22
 go_wp2_with fail
 go_loopw [3,5,11] (fun t _ i wr => ((i=.int .i64 0/\t=.int .i64 0) ∨ (i=.int .i64 1/\t=.int .i64 es1.length) ∨ (i=.int .i64 2/\t=.int .i64 N))/\wr=w) (fun _ _ i _ => 2 - (intOf i).toNat)
 case atStart => exact ⟨.inl ⟨rfl,rfl⟩,rfl⟩
 case round =>
  obtain ⟨hd,rfl⟩:=hrel
  rcases hd with ⟨rfl,rfl⟩ | ⟨rfl,rfl⟩ | ⟨rfl,rfl⟩
  ·go_wp2_with fail
   go_roundw
   case rel => exact ⟨.inr (.inl ⟨by go_num,by go_num⟩),by first | trivial | rfl⟩
   case measure => simp [intOf]
  ·go_wp2_with fail
   go_roundw
   case rel => exact ⟨.inr (.inr ⟨by go_num,by go_num⟩),by first | trivial | rfl⟩
   case measure => simp [intOf]
  ·obtain ⟨W0,rfl⟩:∃ V,V=wr:=⟨_,rfl⟩
   go_wp2_with fail
   refine HG.out.mono ?_; rintro e w1 ⟨g,cap,rfl,hown,hb⟩
   have HI:=Lib.hid (show OwnF W0 [] (.slice (some ⟨g,0,none⟩) 0 cap) w1 from ⟨g,cap,rfl,hown,hb⟩)
   clear hown hb
   go_wp2_with fail
   go_loopw [6,8,27] (fun o _ i V => (i=.int .i64 0/\OwnF W0 [] o V) ∨ (i=.int .i64 1/\OwnF W0 es1 o V) ∨ (i=.int .i64 2/\OwnF W0 (es1 ++ es2) o V)) (fun _ _ i _ => 2 - (intOf i).toNat)
   case atStart => exact .inl ⟨rfl,HI.out⟩
   case round =>
    rcases hrel with ⟨rfl,g,cap,rfl,hown,hb⟩ | ⟨rfl,g,cap,rfl,hown,hb⟩ | ⟨rfl,hO⟩
    ·have hc:=(hb.cell (World.block_lt_of_cell? _ _ HH1.out)).trans HH1.out
     have hsl:=HS1.out.below hb
     have HO:=Lib.hid (And.intro hown hb)
     have hsz:=hb.size
     have HSl:=Lib.hid hsl
     clear hown hb hsl
     go_wp2_with (at_builtin; refine wpList_append_own_at _ rfl _ _ 23 rfl W0.heap.size 43 i0 _ 9 112 Tryz.underlying23 hi hz0 hz1 hz2 rfl (by decide) (.slice (some ⟨g,0,none⟩) [].length cap) [].length (feC []) rfl HO.out.1 a1 es1.length c1 (feC es1) rfl (feC_len _) HSl.out (feC_one _) (by unfold maxLen; simp; omega) (by simp; omega) hsz ?_)
     intro v' w' hown2 hgrow2 _ _
     have hNn:=OwnF.step (a:=[]) (b:=es1) HO.out.1 HO.out.2 hown2 (by simp) hgrow2 (by simp; omega)
     rw [List.nil_append] at hNn
     have HN:=Lib.hid hNn
     clear hNn hown2 hgrow2
     go_wp2_with fail
     go_roundw
     case rel => exact .inr (.inl ⟨by go_num,HN.out⟩)
     case measure => simp [intOf]
    ·have hc:=(hb.cell (World.block_lt_of_cell? _ _ HH2.out)).trans HH2.out
     have hsl:=HS2.out.below hb
     have HO:=Lib.hid (And.intro hown hb)
     have hsz:=hb.size
     have HSl:=Lib.hid hsl
     clear hown hb hsl
     go_wp2_with (at_builtin; refine wpList_append_own_at _ rfl _ _ 23 rfl W0.heap.size 43 i0 _ 9 112 Tryz.underlying23 hi hz0 hz1 hz2 rfl (by decide) (.slice (some ⟨g,0,none⟩) es1.length cap) es1.length (feC es1) rfl HO.out.1 a2 es2.length c2 (feC es2) rfl (feC_len _) HSl.out (feC_one _) (by unfold maxLen; omega) (by omega) hsz ?_)
     intro v' w' hown2 hgrow2 _ _
     have hNn:=OwnF.step (a:=es1) (b:=es2) HO.out.1 HO.out.2 hown2 (by omega) hgrow2 (by omega)
     have HN:=Lib.hid hNn
     clear hNn hown2 hgrow2
     go_wp2_with fail
     go_roundw
     case rel => exact .inr (.inr ⟨by go_num,HN.out⟩)
     case measure => simp [intOf]
    ·have HO:=Lib.hid hO
     clear hO
     go_wp2_with fail
     go_ret
     exact ⟨_,rfl,HO.out⟩
def rotI (n k i:Nat):Nat:=if i + k < n then i + k else i + k - n
theorem rot_lt {n k i:Nat} (hk:k < n) (hi:i < n):rotI n k i < n:=by unfold rotI; split <;> omega
theorem rot_at (es:List FE) (k i:Nat) (hk:k < es.length) (hi:i < es.length) (h:i < (es.drop k ++ es.take k).length):(es.drop k ++ es.take k)[i]=es[rotI es.length k i]'(rot_lt hk hi):=by
 by_cases h1:i < (es.drop k).length
 ·rw [List.getElem_append_left h1,List.getElem_drop]
  have e:k + i=rotI es.length k i:=by
   rw [List.length_drop] at h1
   unfold rotI; rw [if_pos (by omega)]; omega
  simp only [e]
 ·rw [List.getElem_append_right (by omega),List.getElem_take]
  have e:i - (es.drop k).length=rotI es.length k i:=by
   rw [List.length_drop] at h1 ⊢
   unfold rotI; rw [if_neg (by omega)]; omega
  simp only [e]
theorem rot_len (es:List FE) (k:Nat) (hk:k < es.length):(es.drop k ++ es.take k).length=es.length:=by
 rw [List.length_append,List.length_drop,List.length_take]; omega
theorem rot_fd (es:List FE) (k i:Nat) (hk:k < es.length) (hi:i < es.length) (h:i < ((es.drop k ++ es.take k).map FE.fd).length):((es.drop k ++ es.take k).map FE.fd)[i]=(es.map FE.fd)[rotI es.length k i]'(by rw [List.length_map]; exact rot_lt hk hi):=by
 rw [List.getElem_map,List.getElem_map,rot_at es k i hk hi]
theorem rot_x (es:List FE) (k i:Nat) (hk:k < es.length) (hi:i < es.length):xOf (es.drop k ++ es.take k) i=xOf es (rotI es.length k i):=by
 rw [xOf_at _ _ (by rw [rot_len es k hk]; exact hi),xOf_at _ _ (rot_lt hk hi),rot_at es k i hk hi]
theorem rot_base {rs:List Rw} {es:List FE} {π:Nat->Nat} (h:OfBase rs (es.map FE.fd) (xOf es) π) (k:Nat) (hk:k < es.length):OfBase rs ((es.drop k ++ es.take k).map FE.fd) (xOf (es.drop k ++ es.take k)) (fun i => π (rotI es.length k i)):=by
 have hl:((es.drop k ++ es.take k).map FE.fd).length=es.length:=by rw [List.length_map,rot_len es k hk]
 have hl0:(es.map FE.fd).length=es.length:=List.length_map _
 refine ⟨by rw [hl,← hl0]; exact h.len,fun i hi => ?_,fun i j hi hj e => ?_,fun j hj => ?_,fun i hi hb => ?_⟩
 ·rw [hl] at hi ⊢
  have:=h.lt _ (by rw [hl0]; exact rot_lt hk hi)
  rwa [hl0] at this
 ·rw [hl] at hi hj
  have:=h.inj _ _ (by rw [hl0]; exact rot_lt hk hi) (by rw [hl0]; exact rot_lt hk hj) e
  unfold rotI at this
  split at this <;> split at this <;> omega
 ·rw [hl] at hj ⊢
  obtain ⟨m,hm,e⟩:=h.sur j (by rw [hl0]; exact hj)
  rw [hl0] at hm
  refine ⟨if k<=m then m - k else m + es.length - k,by split <;> omega,?_⟩
  have:rotI es.length k (if k<=m then m - k else m + es.length - k)=m:=by unfold rotI; split <;> split <;> omega
  show π _=j
  rw [this,e]
 ·rw [hl] at hi
  have:=h.at' (rotI es.length k i) (by rw [hl0]; exact rot_lt hk hi) hb
  rw [rot_fd es k i hk hi,rot_x es k i hk hi]
  exact this
theorem rot_forms {w:World} {es:List FE} (h:Forms w (es.map FE.fd) (xOf es)) (k:Nat) (hk:k < es.length):Forms w ((es.drop k ++ es.take k).map FE.fd) (xOf (es.drop k ++ es.take k)):=fun i hi => by
 have hi':i < es.length:=by rwa [List.length_map,rot_len es k hk] at hi
 have:=h (rotI es.length k i) (by rw [List.length_map]; exact rot_lt hk hi')
 rw [rot_fd es k i hk hi',rot_x es k i hk hi']
 exact this
theorem slC_of {P:Nat->Prop} {w:World} {g:Nat} {es:List FE} (h:FRow P w (some ⟨g,0,none⟩) es) (k:Nat) (l:List FE) (hl:∀ i (hi:i < l.length),∃ h2:k + i < es.length,l[i]=es[k + i]):SlC w ⟨g,k * 9,none⟩ l:=fun j u hu => by
 have hj:j < l.length * 9:=by rw [← feC_len]; exact (List.getElem?_eq_some_iff.1 hu).1
 have e1:j=(j / 9) * 9 + j % 9:=by omega
 have hi:j / 9 < l.length:=by omega
 have e2:=feC_at l (j / 9) (j % 9) hi (by omega)
 rw [← e1,hu] at e2
 obtain ⟨h2,e3⟩:=hl _ hi
 obtain ⟨g',eg,_,hc,_⟩:=h (k + j / 9) h2
 obtain rfl:g=g':=by injection eg with eg; injection eg
 have h4:=hc (j % 9) (by omega)
 rw [← e3,← e2] at h4
 rw [← h4,Addr.add_lit]
 congr 2
 omega
def TurnAt (fds:List GenL.Fd) (v:Value) (w:World):Prop:=∃ g cap,v=.slice (some ⟨g,0,none⟩) fds.length cap/\Flds w (some ⟨g,0,none⟩) fds/\fds.length<=cap/\cap<=maxLen
theorem ownF_turn {w w':World} {es:List FE} {o:Value} (h:OwnF w es o w'):TurnAt (es.map FE.fd) o w':=by
 obtain ⟨g,cap,rfl,hown,_⟩:=h
 refine ⟨g,cap,by rw [List.length_map],flds_of fun j hj => hown.cellAt j hj,?_⟩
 rw [List.length_map]
 rcases hown.2 with ⟨e,_⟩ | ⟨g',cap',cur,e,_,_,h1,h2,_⟩
 ·simp at e
 ·simp only [Value.slice.injEq] at e
  obtain ⟨_,_,rfl⟩:=e
  exact ⟨h1,h2⟩
end FldU
namespace Wh14
open Go.RowKit Go.Maps
open ValM LexM NumM ExM NmM StrM EvM EvP FoM Kit ExL ExP ExN RawV Within RawL RawN GenL TyM Ty EvF EvO EvR EvE FrmM Frm FrmT FrmO FldP FldC FcM PgM PgF ShE RkM RkD RkO RkT RkP RkS RkK TxR TxT TxK InpG FcF WhM WhQ WhU WhT WhA Wh1 Wh2 Wh3 Wh4 Wh5 Wh6 Wh7 Wh8 Wh9 Wh10 Wh11 Wh13 SMp KMp FldU
set_option linter.unusedVariables false
theorem fieldT_mem:∀ {G:List (ByteArray × Int)},(G.map Prod.fst).Nodup->∀ {s:ByteArray} {t:Int},(s,t) ∈ G->fieldT G s=(t,0)
 | [],_,s,t,h => by cases h
 | p :: G,hn,s,t,h => by
  rw [List.map_cons,List.nodup_cons] at hn
  unfold fieldT
  rcases List.mem_cons.1 h with e | h
  ·rw [← e,if_pos rfl]
  ·have hne:p.1 ≠ s:=fun e => hn.1 (by rw [e]; exact List.mem_map.2 ⟨_,h,rfl⟩)
   rw [if_neg hne,fieldT_mem hn.2 h]
theorem fieldT_no:∀ {G:List (ByteArray × Int)} {s:ByteArray},(∀ p ∈ G,p.1 ≠ s)->fieldT G s=(0,5)
 | [],s,_ => rfl
 | p :: G,s,h => by
  unfold fieldT
  rw [if_neg (h p (by simp)),fieldT_no fun q hq => h q (by simp [hq])]
theorem fieldT_swap {A B:List (ByteArray × Int)} (hn:((A ++ B).map Prod.fst).Nodup) (s:ByteArray):fieldT (B ++ A) s=fieldT (A ++ B) s:=by
 have hn2:((B ++ A).map Prod.fst).Nodup:=by
  rw [List.map_append] at hn ⊢
  exact (List.perm_append_comm.nodup_iff).1 hn
 by_cases h:∃ t,(s,t) ∈ A ++ B
 ·obtain ⟨t,h⟩:=h
  rw [fieldT_mem hn h,fieldT_mem hn2 (by rw [List.mem_append] at h ⊢; exact h.symm)]
 ·have h1:∀ p ∈ A ++ B,p.1 ≠ s:=fun p hp e => h ⟨p.2,by rw [← e]; exact hp⟩
  rw [fieldT_no h1,fieldT_no fun p hp => h1 p (by rw [List.mem_append] at hp ⊢; exact hp.symm)]
theorem atF_lt_of:∀ {fs:List GenL.Fd} {s:ByteArray} (m:Nat) (hm:m < fs.length),fs[m].nm=s->atF fs s < fs.length
 | [],s,m,hm,_ => absurd hm (Nat.not_lt_zero _)
 | f :: l,s,m,hm,e => by
  unfold atF
  by_cases h:f.nm=s
  ·rw [if_pos h]; simp
  ·rw [if_neg h]
   match m,hm,e with
   | 0,_,e => exact absurd e h
   | m + 1,hm,e =>
    have:=atF_lt_of (fs:=l) m (by simpa using hm) (by simpa using e)
    simp only [List.length_cons]; omega
theorem nm_nodup {rs:List Rw} {fs:List GenL.Fd} {X:Nat->Ex} {π:Nat->Nat} (ha:∀ (i j:Nat) (hi:i < fs.length) (hj:j < fs.length),fs[i].nm=fs[j].nm->i=j):((fts fs).map Prod.fst).Nodup:=by
 rw [List.nodup_iff_pairwise_ne,List.pairwise_iff_getElem]
 intro i j hi hj hij e
 have h1:i < fs.length:=by simpa [fts] using hi
 have h2:j < fs.length:=by simpa [fts] using hj
 simp only [fts,List.map_map,List.getElem_map,Function.comp_apply] at e
 have:=ha i j h1 h2 e
 omega
theorem turn_w (es:List FE) (k:Nat):(es.drop k ++ es.take k).map toW=turn (es.map toW) k:=by unfold turn; rw [List.map_append,List.map_drop,List.map_take]
structure RotS (rs:List Rw) (es:List FE) (ps:List PE) (PA:Option Addr) (pc:Nat) (k:Nat) (v:World):Prop where
 wf:∀ (V:World) (g c:Nat),Below v.heap.size v V->Flds V (some ⟨g,0,none⟩) ((es.drop k ++ es.take k).map FE.fd)->es.length<=c/\c<=maxLen->WF (es.drop k ++ es.take k) (xOf (es.drop k ++ es.take k)) (some ⟨g,0,none⟩) c ps PA pc V
 ord:∀ (V:World) (g c:Nat),Below v.heap.size v V->Flds V (some ⟨g,0,none⟩) ((es.drop k ++ es.take k).map FE.fd)->es.length<=c/\c<=maxLen->Calls Tryz.prog 48 #[.slice (some ⟨g,0,none⟩) (es.drop k ++ es.take k).length c] V (OrdOut (es.drop k ++ es.take k).length (rankF (needsF ((es.drop k ++ es.take k).map FE.fd) (xOf (es.drop k ++ es.take k)))) V)
theorem rot_start {rs:List Rw} {es:List FE} {ps:List PE} {P Q:Nat->Prop} {w:World} {FA PA:Option Addr} {fc pc:Nat} {qs:List Rw} {I:List Fc} (hv:es.map FE.v=formF rs) (hr:FRow P w FA es) (hpv:ps.map PE.v=formP rs) (hpr:PRow Q w PA ps) (h:GS es ps FA fc PA pc qs I w) (k:Nat) (hk:k < es.length):RotS rs es ps PA pc k w:=by
 have hB:=form_base hv hr
 have hB2:=rot_base hB k hk
 have hfo2:=rot_forms h.wf.fin.fx k hk
 have hlr:=rot_len es k hk
 have hlf:((es.drop k ++ es.take k).map FE.fd).length=es.length:=by rw [List.length_map,hlr]
 have hl:(es.map FE.fd).length=es.length:=List.length_map _
 obtain ⟨hpl,hgood,hgn,hsz⟩:=form_pages hv hr hpv hpr
 have hge:∀ i,i < es.length->0<=rk (rankF (needsF ((es.drop k ++ es.take k).map FE.fd) (xOf (es.drop k ++ es.take k)))) i:=fun i hi => by
  refine (rankF_ok (m:=fun i => plc rs (rotI es.length k i)) (fun k' hk' j hj => ?_) _ i (Nat.le_refl _) (by rw [needsF_len,hlf]; exact hi)).1
  rw [needsF_len] at hk' ⊢
  exact hB2.needs k' hk' j hj
 -- types of names
 have hap:∀ (i j:Nat) (hi:i < (es.map FE.fd).length) (hj:j < (es.map FE.fd).length),(es.map FE.fd)[i].nm=(es.map FE.fd)[j].nm->i=j:=fun i j hi hj e => by
  rw [hl] at hi hj
  exact h.wf.wt.apart i j (by rw [List.length_map]; exact hi) (by rw [List.length_map]; exact hj) (by rw [List.getElem_map,List.getElem_map] at e ⊢; exact e)
 have hft:∀ s,fieldT (fts ((es.drop k ++ es.take k).map FE.fd)) s=fieldT (fts (es.map FE.fd)) s:=fun s => by
  have e1:fts (es.map FE.fd)=fts ((es.take k).map FE.fd) ++ fts ((es.drop k).map FE.fd):=by
   conv => lhs; rw [← List.take_append_drop k es]
   unfold fts; rw [List.map_append,List.map_append]
  have e2:fts ((es.drop k ++ es.take k).map FE.fd)=fts ((es.drop k).map FE.fd) ++ fts ((es.take k).map FE.fd):=by
   unfold fts; rw [List.map_append,List.map_append]
  rw [e1,e2]
  refine fieldT_swap ?_ s
  rw [← e1]
  exact nm_nodup (rs:=rs) (X:=fun _ => (zeroX:Ex)) (π:=fun i => i) hap
 have hfit:∀ x:Ex,fitsT (fts ((es.drop k ++ es.take k).map FE.fd)) x 2=fitsT (fts (es.map FE.fd)) x 2:=fun x => by
  unfold fitsT ofT
  rw [ty_congr x fun s _ => hft s]
 have hgood2:PgF.Good ((es.drop k ++ es.take k).map FE.fd) ps:=⟨hgood.few,hgood.nm,hgood.inj,fun j hj => by rw [hfit]; exact hgood.sk j hj⟩
 have hgn2:PgF.GoodN ((es.drop k ++ es.take k).map FE.fd) ps:=⟨fun j hj s hs => by
  have h1:=hgn.at' j hj s hs
  have h2:=(atF_at h1).1
  refine Nat.lt_of_le_of_ne (atF_le _ _) fun e => ?_
  have h3:(es.map FE.fd)[atF (es.map FE.fd) s] ∈ (es.drop k ++ es.take k).map FE.fd:=by
   have h4:=List.getElem_mem h1
   obtain ⟨e5,he5,he6⟩:=List.mem_map.1 h4
   rw [← he6]
   refine List.mem_map.2 ⟨e5,?_,rfl⟩
   rw [← List.take_append_drop k es] at he5
   rw [List.mem_append] at he5 ⊢
   exact he5.symm
  obtain ⟨m,hm,e7⟩:=List.getElem_of_mem h3
  have h9:=atF_lt_of (s:=s) m hm (by rw [e7]; exact h2)
  omega,hgn.one,hgn.nd⟩
 have hck2:=check_good hgood2 hgn2
 have hok:formE ((es.drop k ++ es.take k).map FE.fd) (xOf (es.drop k ++ es.take k)) ps=0:=by
  unfold formE
  have hrk:rankE ((es.drop k ++ es.take k).map FE.fd) (xOf (es.drop k ++ es.take k))=0:=by
   unfold rankE
   rw [if_pos hB2.check,if_pos]
   intro i hi
   rw [hlf] at hi
   have:=hge i hi
   omega
  rw [if_pos hrk]
  exact hck2
 refine ⟨fun V g c hV hfl hc => ?_,fun V g c hV hfl hc => ?_⟩
 ·refine ⟨⟨by rw [hlf]; have:=h.n10; omega,hfl,hfo2.below hV,fun j hj => ?_,by rw [hlf]; exact hc,h.wf.fin.pg.below hV,h.wf.fin.ok.below hV,h.wf.fin.pcap,h.wf.fin.pn,h.wf.fin.pN⟩,TxK.srcs_xOf _,fun j hj => ?_,hok⟩
  ·rw [hlf] at hj
   rw [rot_x es k j hk hj]
   exact h.wf.fin.fN _ (by rw [hl]; exact rot_lt hk hj)
  ·rw [hlr] at hj
   rw [rot_at es k j hk hj]
   exact (h.wf.fis _ (rot_lt hk hj)).below hV
 ·have h10:=h.n10
  have h1:=h.n1
  have:=of_ok ((es.drop k ++ es.take k).map FE.fd) (xOf (es.drop k ++ es.take k)) (some ⟨g,0,none⟩) c V (by rw [hlf]; omega) hfl (hfo2.below hV) (h.tab.below hV) (by rw [hlf]; exact hc) hB2.check (fun i hi => hge i (by rw [hlf] at hi; exact hi))
  rw [hlf] at this
  rw [hlr]
  exact (RkP.order_ok _ es.length (some ⟨g,0,none⟩) c V (by rw [needsF_len,hlf]) h1 (by omega) this).mono fun e w' hh => ordOut_of hh
end Wh14
namespace VlS
open Go.RowKit
open EvM Kit
set_option linter.unusedVariables false
def VlAt (w:World) (a:Addr) (v:Vl):Prop:=w.cell? a=some (.int .i64 v.k)/\w.cell? ⟨a.block,a.off + 1,none⟩=some (.int .i64 v.n)/\w.cell? ⟨a.block,a.off + 2,none⟩=some (.string v.s)
def Vls (w:World) (A:Option Addr) (vs:List Vl):Prop:=∀ (i:Nat) (h:i < vs.length),∃ ad,A=some ad/\VlAt w (ad.add (i * 3)) vs[i]
theorem VlAt.below {w w':World} {a:Addr} {v:Vl} (h:VlAt w a v) (hb:Below w.heap.size w w'):VlAt w' a v :=
 ⟨(hb.cell (World.block_lt_of_cell? w _ h.1)).trans h.1,(hb.cell (World.block_lt_of_cell? w _ h.2.1)).trans h.2.1,(hb.cell (World.block_lt_of_cell? w _ h.2.2)).trans h.2.2⟩
theorem Vls.below {w w':World} {A:Option Addr} {vs:List Vl} (h:Vls w A vs) (hb:Below w.heap.size w w'):Vls w' A vs:=fun i hi => by
 obtain ⟨ad,e,h1⟩:=h i hi
 exact ⟨ad,e,h1.below hb⟩
end VlS
namespace Wh15
open Go.RowKit Go.Maps
open ValM LexM NumM ExM NmM StrM EvM EvP FoM Kit ExL ExP ExN RawV Within RawL RawN GenL TyM Ty EvF EvO EvR EvE FrmM Frm FrmT FrmO FldP FldC FcM PgM PgF ShE RkM RkD RkO RkT RkP RkS RkK TxR TxT TxK InpG FcF WhM WhQ WhU WhT WhA Wh1 Wh2 Wh3 Wh4 Wh5 Wh6 Wh7 Wh8 Wh9 Wh10 Wh11 Wh13 Wh14 SMp KMp FldU VlS
set_option linter.unusedVariables false
theorem vls_row {w:World} {g:Nat} {vs:List Vl} (h:RowV w g vs):Vls w (some ⟨g,0,none⟩) vs:=fun i hi => ⟨_,rfl,by rw [add_block]; exact h.at i hi⟩
theorem slv_of {w:World} {g:Nat} {vs:List Vl} (h:RowV w g vs) (k:Nat) (l:List Vl) (hl:∀ i (hi:i < l.length),∃ h2:k + i < vs.length,l[i]=vs[k + i]):∀ j u,(cellsV l)[j]?=some u->w.cell? ((⟨g,k * 3,none⟩:Addr).add j)=some u:=fun j u hu => by
 have hj:j < l.length * 3:=by rw [← cellsV_len]; exact (List.getElem?_eq_some_iff.1 hu).1
 have hi:j / 3 < l.length:=by omega
 obtain ⟨h2,e3⟩:=hl _ hi
 obtain ⟨z0,z1,z2⟩:=h.at (k + j / 3) h2
 obtain ⟨y0,y1,y2⟩:=cellsV_at l (j / 3) hi
 rw [e3] at y0 y1 y2
 rw [Addr.add_lit]
 have hm:j % 3=0 ∨ j % 3=1 ∨ j % 3=2:=by omega
 rcases hm with e | e | e
 ·have ej:j=j / 3 * 3:=by omega
  have ea:k * 3 + j=(k + j / 3) * 3:=by omega
  rw [ej,y0] at hu
  rw [ea,z0]; exact hu
 ·have ej:j=j / 3 * 3 + 1:=by omega
  have ea:k * 3 + j=(k + j / 3) * 3 + 1:=by omega
  rw [ej,y1] at hu
  rw [ea,z1]; exact hu
 ·have ej:j=j / 3 * 3 + 2:=by omega
  have ea:k * 3 + j=(k + j / 3) * 3 + 2:=by omega
  rw [ej,y2] at hu
  rw [ea,z2]; exact hu
set_option maxRecDepth 100000 in
set_option maxHeartbeats 4000000 in
theorem equalV_any (vs:List Vl) (n:Nat) (A1 A2:Option Addr) (c1 c2:Nat) (w:World) (hl:vs.length=n) (hn:n<=1000000) (h1:Vls w A1 vs) (h2:Vls w A2 vs) :
  Calls Tryz.prog 23 #[.slice A1 n c1,.slice A2 n c2] w fun e w' => e=.returned (.bool true)/\Below w.heap.size w w':=by
 have H1:=Lib.hid h1
 have H2:=Lib.hid h2
 have HL:=Lib.hid hl
 clear h1 h2 hl
 go_enter Tryz.func23,Tryz.ntmps23
 go_wp2_with fail
 go_loopw [5,13] (fun _ ii wr => ∃ k:Nat,ii=.int .i64 k/\k<=n/\Below w.heap.size w wr) (fun _ ii _ => n - (intOf ii).toNat)
 case atStart => exact ⟨0,rfl,Nat.zero_le _,Below.refl _ _⟩
 case round =>
  obtain ⟨k,rfl,hk,hb⟩:=hrel
  obtain ⟨wa,rfl⟩:∃ V,V=wr:=⟨_,rfl⟩
  by_cases hlt:k < n
  ·have hkv:k < vs.length:=by have:=HL.out; omega
   obtain ⟨a1,rfl,x0,x1,x2⟩:=H1.out.below hb k hkv
   obtain ⟨a2,rfl,y0,y1,y2⟩:=H2.out.below hb k hkv
   obtain ⟨v,hv⟩:∃ v,vs[k]=v:=⟨_,rfl⟩
   rw [hv] at x0 x1 x2 y0 y1 y2
   have HB:=Lib.hid hb
   have tlt:(k:Int) < (n:Int):=by omega
   clear hb hv hkv
   go_upto_region 6 with fail
   go_quiet (fail)
   go_wp2_with fail
   go_roundw
   case rel => exact ⟨k + 1,by go_num,by omega,b_drewN HB.out nq⟩
   case measure => simp [intOf]; omega
  ·have HB:=Lib.hid hb
   clear hb
   go_wp2_with fail
   go_ret
   exact ⟨rfl,HB.out⟩
theorem info_partsV {t:TypeId} {z:Value} {s b:Nat} (h:(Tryz.prog.info? t).map (fun i => (i.zero,i.size,i.bytes))=some (some z,s,b)):∃ i0,Tryz.prog.info? t=some i0/\i0.zero=some z/\i0.size=s/\i0.bytes=b:=by
 cases hi:Tryz.prog.info? t with
 | none => rw [hi] at h; cases h
 | some i0 =>
  rw [hi] at h
  simp only [Option.map_some,Option.some.injEq,Prod.mk.injEq] at h
  exact ⟨i0,rfl,h.1,h.2.1,h.2.2⟩
theorem infoV3:(Tryz.prog.info? 38).map (fun i => (i.zero,i.size,i.bytes))=some (some (.agg #[.int .i64 0,.int .i64 0,.string ⟨#[]⟩]),3,32):=by kernel_rfl
def GrowV (w:World) (e:Ending) (w':World):Prop :=
 ∃ g cap,e=.returned (.slice (some ⟨g,0,none⟩) 0 cap)/\w'.ownsRow w.heap.size 38 3 (.slice (some ⟨g,0,none⟩) 0 cap) 0 []/\Below w.heap.size w w'
set_option maxRecDepth 100000 in
set_option maxHeartbeats 4000000 in
theorem growV_any (n:Nat) (w:World) (h0:0 < n) (hn:n<=1000):Calls Tryz.prog 55 #[.slice none 0 0,.int .i64 n] w (GrowV w):=by
 obtain ⟨i0,hi,hz0,hz1,hz2⟩:=info_partsV infoV3
 have hrun:=fun (V:World) (ty:TypeId) => Lib.run_append_nil_zeros (P:=Tryz.prog) V 32 3 ty 38 i0 _ .i64 .i64 Tryz.underlying32 Tryz.underlying3 hi hz0 n h0 (by omega) (by omega) (by rw [hz2]; omega)
 have hfin:GrowV w (.returned (.slice (some ⟨w.heap.size,0,none⟩) 0 (grownCap w n 0 38))) (w.drew.alloc (.cells (Builtin.zeroCells (Value.agg #[.int .i64 0,.int .i64 0,.string ⟨#[]⟩]).cells n ++ Builtin.zeroCells (Value.agg #[.int .i64 0,.int .i64 0,.string ⟨#[]⟩]).cells (grownCap w n 0 38 - n)) 38)):=by
  have hge:=grownCap_ge w n 0 38
  have hle:=grownCap_le_maxLen w n 0 38 (by unfold maxLen; omega)
  refine ⟨w.heap.size,_,rfl,?_,b_more (b_drew (Below.refl _ _)) _⟩
  have:=World.ownsRow_made (base:=w.heap.size) (size:=3) (e:=38) w.drew (Builtin.zeroCells (Value.agg #[.int .i64 0,.int .i64 0,.string ⟨#[]⟩]).cells n ++ Builtin.zeroCells (Value.agg #[.int .i64 0,.int .i64 0,.string ⟨#[]⟩]).cells (grownCap w n 0 38 - n)) (grownCap w n 0 38) (Nat.le_refl _) hle (by simp [Builtin.zeroCells,Value.cells]; omega)
  exact this
 obtain ⟨g,cap,W,hr,hf⟩:∃ g cap W,(∀ ty,(Builtin.append_ #[32,3] ty #[.slice none 0 0,.int .i64 n]).run Tryz.prog w=.ok (.slice (some ⟨g,0,none⟩) n cap) W)/\GrowV w (.returned (.slice (some ⟨g,0,none⟩) 0 cap)) W:=⟨_,_,_,fun ty => hrun w ty,hfin⟩
 have HR:=Lib.hid hr
 have HF:=Lib.hid hf
 have n1:¬ (n:Int) < 0:=by omega
 have n2:(0:Int) < (n:Int):=by omega
 have n3:(n:Int)<=1000:=by omega
 clear hrun hfin hr hf hi hz0 hz1 hz2
 go_enter Tryz.func55,Tryz.ntmps55
 go_wp2_with (at_builtin; refine Lib.wpList_append_run _ rfl _ _ _ _ rfl _ _ rfl rfl _ _ (HR.out _) ?_)
 go_ret
 exact HF.out
def SlVc (w:World) (ad:Addr) (es:List Vl):Prop:=∀ j u,(cellsV es)[j]?=some u->w.cell? (ad.add j)=some u
theorem SlVc.below {w w':World} {ad:Addr} {es:List Vl} (h:SlVc w ad es) (hb:Below w.heap.size w w'):SlVc w' ad es:=fun j u hu => by
 have:=h j u hu
 exact (hb.cell (World.block_lt_of_cell? w _ this)).trans this
theorem cv_one:∀ (vs:List Vl),∀ u ∈ cellsV vs,u.oneCell'=true
 | [],u,h => by simp [cellsV] at h
 | e :: l,u,h => by
  simp only [cellsV,List.mem_cons] at h
  rcases h with rfl | rfl | rfl | h
  ·rfl
  ·rfl
  ·rfl
  ·exact cv_one l u h
theorem cv_app:∀ (a b:List Vl),cellsV (a ++ b)=cellsV a ++ cellsV b
 | [],b => rfl
 | e :: l,b => by simp only [List.cons_append,cellsV,cv_app l b]
def OwnVs (w:World) (es:List Vl) (o:Value) (w':World):Prop :=
 ∃ g cap,o=.slice (some ⟨g,0,none⟩) es.length cap/\w'.ownsRow w.heap.size 38 3 (.slice (some ⟨g,0,none⟩) es.length cap) es.length (cellsV es)/\Below w.heap.size w w'
theorem OwnVs.step {w wr w':World} {a b:List Vl} {g cap n:Nat} {v':Value} (h1:wr.ownsRow w.heap.size 38 3 (.slice (some ⟨g,0,none⟩) a.length cap) a.length (cellsV a)) (hb:Below w.heap.size w wr) (h2:w'.ownsRow w.heap.size 38 3 v' n (cellsV a ++ cellsV b)) (hnn:a.length + b.length=n) (h3:wr.grownBy w' (Value.slice (some ⟨g,0,none⟩) a.length cap).ownBlock) (hn:0 < a.length + b.length):OwnVs w (a ++ b) v' w':=by
 subst hnn
 obtain ⟨g2,cap2,rfl,_,_⟩:=h2.form hn
 refine ⟨g2,cap2,by rw [List.length_append],by rw [List.length_append,cv_app]; exact h2,hb.grown h3 hb.size (fun k e => (h1.lt k e).1)⟩
def ConV (es:List Vl) (w:World) (e:Ending) (w':World):Prop:=∃ o,e=.returned o/\OwnVs w es o w'
set_option maxRecDepth 100000 in
set_option maxHeartbeats 4000000 in
theorem concatV_any (b:Nat) (a1 a2:Addr) (pc c1 c2:Nat) (es1 es2:List Vl) (w:World) (h1:w.cell? ⟨b,0,none⟩=some (.slice (some a1) es1.length c1)) (h2:w.cell? ⟨b,1,none⟩=some (.slice (some a2) es2.length c2))
  (hs1:SlVc w a1 es1) (hs2:SlVc w a2 es2) (hn:0 < es1.length) (hm:es1.length + es2.length<=10):Calls Tryz.prog 24 #[.slice (some ⟨b,0,none⟩) 2 pc] w (ConV (es1 ++ es2) w):=by
 obtain ⟨i0,hi,hz0,hz1,hz2⟩:=info_partsV infoV3
 obtain ⟨N,hN⟩:∃ N,es1.length + es2.length=N:=⟨_,rfl⟩
 have hg:=growV_any N w (by omega) (by omega)
 have HG:=Lib.hid hg
 have HS1:=Lib.hid hs1
 have HS2:=Lib.hid hs2
 have HH1:=Lib.hid h1
 have HH2:=Lib.hid h2
 clear hg hs1 hs2
 go_enter Tryz.func24,Tryz.ntmps24
 go_wp2_with fail
 go_loopw [3,5,11] (fun t _ i wr => ((i=.int .i64 0/\t=.int .i64 0) ∨ (i=.int .i64 1/\t=.int .i64 es1.length) ∨ (i=.int .i64 2/\t=.int .i64 N))/\wr=w) (fun _ _ i _ => 2 - (intOf i).toNat)
 case atStart => exact ⟨.inl ⟨rfl,rfl⟩,rfl⟩
 case round =>
  obtain ⟨hd,rfl⟩:=hrel
  rcases hd with ⟨rfl,rfl⟩ | ⟨rfl,rfl⟩ | ⟨rfl,rfl⟩
  ·go_wp2_with fail
   go_roundw
   case rel => exact ⟨.inr (.inl ⟨by go_num,by go_num⟩),by first | trivial | rfl⟩
   case measure => simp [intOf]
  ·go_wp2_with fail
   go_roundw
   case rel => exact ⟨.inr (.inr ⟨by go_num,by go_num⟩),by first | trivial | rfl⟩
   case measure => simp [intOf]
  ·obtain ⟨W0,rfl⟩:∃ V,V=wr:=⟨_,rfl⟩
   go_wp2_with fail
   refine HG.out.mono ?_; rintro e w1 ⟨g,cap,rfl,hown,hb⟩
   have HI:=Lib.hid (show OwnVs W0 [] (.slice (some ⟨g,0,none⟩) 0 cap) w1 from ⟨g,cap,rfl,hown,hb⟩)
   clear hown hb
   go_wp2_with fail
   go_loopw [6,8,27] (fun o _ i V => (i=.int .i64 0/\OwnVs W0 [] o V) ∨ (i=.int .i64 1/\OwnVs W0 es1 o V) ∨ (i=.int .i64 2/\OwnVs W0 (es1 ++ es2) o V)) (fun _ _ i _ => 2 - (intOf i).toNat)
   case atStart => exact .inl ⟨rfl,HI.out⟩
   case round =>
    rcases hrel with ⟨rfl,g,cap,rfl,hown,hb⟩ | ⟨rfl,g,cap,rfl,hown,hb⟩ | ⟨rfl,hO⟩
    ·have hc:=(hb.cell (World.block_lt_of_cell? _ _ HH1.out)).trans HH1.out
     have hsl:=HS1.out.below hb
     have HO:=Lib.hid (And.intro hown hb)
     have hsz:=hb.size
     have HSl:=Lib.hid hsl
     clear hown hb hsl
     go_wp2_with (at_builtin; refine wpList_append_own_at _ rfl _ _ 32 rfl W0.heap.size 38 i0 _ 3 32 Tryz.underlying32 hi hz0 hz1 hz2 rfl (by decide) (.slice (some ⟨g,0,none⟩) [].length cap) [].length (cellsV []) rfl HO.out.1 a1 es1.length c1 (cellsV es1) rfl (cellsV_len _) HSl.out (cv_one _) (by unfold maxLen; simp; omega) (by simp; omega) hsz ?_)
     intro v' w' hown2 hgrow2 _ _
     have hNn:=OwnVs.step (a:=[]) (b:=es1) HO.out.1 HO.out.2 hown2 (by simp) hgrow2 (by simp; omega)
     rw [List.nil_append] at hNn
     have HN:=Lib.hid hNn
     clear hNn hown2 hgrow2
     go_wp2_with fail
     go_roundw
     case rel => exact .inr (.inl ⟨by go_num,HN.out⟩)
     case measure => simp [intOf]
    ·have hc:=(hb.cell (World.block_lt_of_cell? _ _ HH2.out)).trans HH2.out
     have hsl:=HS2.out.below hb
     have HO:=Lib.hid (And.intro hown hb)
     have hsz:=hb.size
     have HSl:=Lib.hid hsl
     clear hown hb hsl
     go_wp2_with (at_builtin; refine wpList_append_own_at _ rfl _ _ 32 rfl W0.heap.size 38 i0 _ 3 32 Tryz.underlying32 hi hz0 hz1 hz2 rfl (by decide) (.slice (some ⟨g,0,none⟩) es1.length cap) es1.length (cellsV es1) rfl HO.out.1 a2 es2.length c2 (cellsV es2) rfl (cellsV_len _) HSl.out (cv_one _) (by unfold maxLen; omega) (by omega) hsz ?_)
     intro v' w' hown2 hgrow2 _ _
     have hNn:=OwnVs.step (a:=es1) (b:=es2) HO.out.1 HO.out.2 hown2 (by omega) hgrow2 (by omega)
     have HN:=Lib.hid hNn
     clear hNn hown2 hgrow2
     go_wp2_with fail
     go_roundw
     case rel => exact .inr (.inr ⟨by go_num,HN.out⟩)
     case measure => simp [intOf]
    ·have HO:=Lib.hid hO
     clear hO
     go_wp2_with fail
     go_ret
     exact ⟨_,rfl,HO.out⟩
def Two (W:World) (p q:Value) (T:TypeId) (V:World) (b:Nat):Prop:=Below W.heap.size W V/\V.heap[b]?=some (.cells #[p,q] T)
theorem Two.first {W U:World} {p q:Value} {T:TypeId} {b:Nat} (h:Below W.heap.size W U) (hs:U.heap.size=b):Two W p q T (U.alloc (.cells #[p,q] T)) b:=⟨b_more h _,by rw [← hs]; exact World.alloc_heap_new U _⟩
theorem Two.lt {W V:World} {p q:Value} {T:TypeId} {b:Nat} (h:Two W p q T V b):b < V.heap.size:=(Array.getElem?_eq_some_iff.1 h.2).1
theorem Two.more {W V:World} {p q:Value} {T:TypeId} {b:Nat} (h:Two W p q T V b) (o:Obj):Two W p q T (V.alloc o) b:=⟨b_more h.1 _,((b_new V o).block b h.lt).trans h.2⟩
theorem Two.drew {W V:World} {p q:Value} {T:TypeId} {b:Nat} (h:Two W p q T V b):Two W p q T V.drew b:=⟨b_drew h.1,h.2⟩
theorem Two.cells {W V:World} {p q:Value} {T:TypeId} {b:Nat} (h:Two W p q T V b):V.cell? ⟨b,0,none⟩=some p/\V.cell? ⟨b,1,none⟩=some q:=by
 have e:=h.2
 exact ⟨by simp [World.cell?,e],by simp [World.cell?,e]⟩
def FBz (w:World) (b:Nat) (p q:Value):Prop:=w.heap[b]?=some (.cells #[p,q] 26)
theorem FBz.lt {w:World} {b:Nat} {p q:Value} (h:FBz w b p q):b < w.heap.size:=(Array.getElem?_eq_some_iff.1 h).1
theorem FBz.new {U:World} {b:Nat} {p q:Value} (hs:U.heap.size=b):FBz (U.alloc (.cells #[p,q] 26)) b p q:=by rw [← hs]; exact World.alloc_heap_new U _
theorem FBz.more {V:World} {b:Nat} {p q:Value} (h:FBz V b p q) (o:Obj):FBz (V.alloc o) b p q:=((b_new V o).block b h.lt).trans h
theorem FBz.drew {V:World} {b:Nat} {p q:Value} (h:FBz V b p q):FBz V.drew b p q:=h
theorem FBz.below {V W:World} {b:Nat} {p q:Value} (h:FBz V b p q) (hb:Below V.heap.size V W):FBz W b p q:=(hb.block b h.lt).trans h
theorem FBz.cells {V:World} {b:Nat} {p q:Value} (h:FBz V b p q):V.cell? ⟨b,0,none⟩=some p/\V.cell? ⟨b,1,none⟩=some q:=by
 unfold FBz at h
 exact ⟨by simp [World.cell?,h],by simp [World.cell?,h]⟩
theorem FBz.frozen {V:World} {b:Nat} {p q:Value} (h:FBz V b p q) (o:Nat):V.frozen? ⟨b,o,none⟩=false:=frozen_of_row V b o _ _ h
theorem FBz.set2 {V:World} {b:Nat} {p q:Value} (h:FBz V b p q) (u v:Value):FBz ((V.setCell ⟨b,0,none⟩ u).setCell ⟨b,1,none⟩ v) b u v:=by
 have e1:=heap_setCell_same V b 0 _ _ u h
 have e2:=heap_setCell_same _ b 1 _ _ v e1
 unfold FBz
 rw [e2]; simp
theorem b_set2' {B:Nat} {a w:World} (h:Below B a w) (b:Nat) (hb:B<=b) (u v:Value):Below B a ((w.setCell ⟨b,0,none⟩ u).setCell ⟨b,1,none⟩ v):=(h.setCell (p:=⟨b,0,none⟩) hb u).setCell (p:=⟨b,1,none⟩) hb v
theorem flds_set2 {fds:List GenL.Fd} {g b:Nat} {w:World} (h:Flds w (some ⟨g,0,none⟩) fds) (hne:g ≠ b) (p q:Value):Flds ((w.setCell ⟨b,0,none⟩ p).setCell ⟨b,1,none⟩ q) (some ⟨g,0,none⟩) fds:=fun i hi => by
 obtain ⟨a,e,hat⟩:=h i hi
 injection e with e
 subst e
 refine ⟨_,rfl,hat.of_block ?_⟩
 rw [add_block]
 show _=w.heap[g]?
 rw [Below.heap_setCell _ _ _ _ hne,Below.heap_setCell _ _ _ _ hne]
theorem size2 {V:World} {a b:Obj} {g:Nat} (h:((V.alloc a).alloc b).heap.size<=g):V.heap.size + 1 + 1<=g:=by rwa [World.size_alloc,World.size_alloc] at h
theorem concatV_two {w V:World} {g k n:Nat} {vs:List Vl} {b:Nat} (hr:RowV w g vs) (hl:vs.length=n) (hk:k < n) (hn:n<=10) (h2:Two w (.slice (some ⟨g,k * 3,none⟩) (n - k) (n - k)) (.slice (some ⟨g,0,none⟩) k n) 32 V b) :
  Calls Tryz.prog 24 #[.slice (some ⟨b,0,none⟩) 2 2] V fun e w' => ∃ g2 cap,e=.returned (.slice (some ⟨g2,0,none⟩) n cap)/\Vls w' (some ⟨g2,0,none⟩) (vs.drop k ++ vs.take k)/\Below V.heap.size V w':=by
 obtain ⟨t1,t2⟩:=h2.cells
 have hrV:=hr.below h2.1
 have hl1:(vs.drop k).length=n - k:=by rw [List.length_drop,hl]
 have hl2:(vs.take k).length=k:=by rw [List.length_take]; omega
 have hlt:(vs.drop k ++ vs.take k).length=n:=by rw [List.length_append,hl1,hl2]; omega
 have hs1:=slv_of hrV k (vs.drop k) (fun i hi => by rw [hl1] at hi; exact ⟨by omega,List.getElem_drop⟩)
 have hs2:=slv_of hrV 0 (vs.take k) (fun i hi => by rw [hl2] at hi; exact ⟨by omega,by rw [List.getElem_take]; simp only [Nat.zero_add]⟩)
 rw [Nat.zero_mul] at hs2
 refine (concatV_any b ⟨g,k * 3,none⟩ ⟨g,0,none⟩ 2 (n - k) n (vs.drop k) (vs.take k) V (by rw [hl1]; exact t1) (by rw [hl2]; exact t2) hs1 hs2 (by omega) (by omega)).mono ?_
 rintro e w' ⟨o,rfl,g2,cap,rfl,hown,hb⟩
 refine ⟨g2,cap,by rw [hlt],fun i hi => ⟨_,rfl,?_⟩,hb⟩
 rw [add_block]
 obtain ⟨y0,y1,y2⟩:=cellsV_at _ i hi
 exact ⟨(hown.cellAt (i * 3) (by omega)).trans y0,(hown.cellAt (i * 3 + 1) (by omega)).trans y1,(hown.cellAt (i * 3 + 2) (by omega)).trans y2⟩
end Wh15
namespace Wh16
open Go.RowKit Go.Maps
open ValM LexM NumM ExM NmM StrM EvM EvP FoM Kit ExL ExP ExN RawV Within RawL RawN GenL TyM Ty EvF EvO EvR EvE FrmM Frm FrmT FrmO FldP FldC FcM PgM PgF ShE RkM RkD RkO RkT RkP RkS RkK TxR TxT TxK InpG FcF WhM WhQ WhU WhT WhA Wh1 Wh2 Wh3 Wh4 Wh5 Wh6 Wh7 Wh8 Wh9 Wh10 Wh11 Wh13 Wh14 SMp KMp FldU VlS Wh15
set_option linter.unusedVariables false
theorem rot_mem {es:List FE} {k:Nat} {e:FE}:e ∈ es.drop k ++ es.take k ↔ e ∈ es:=by
 rw [List.mem_append]
 conv => rhs; rw [← List.take_append_drop k es,List.mem_append]
 exact Or.comm
theorem rot_facts {rs:List Rw} {es:List FE} {P:Nat->Prop} {w:World} {FA:Option Addr} (hv:es.map FE.v=formF rs) (hr:FRow P w FA es) (qs:List Rw) (k:Nat) (hk:k < es.length):factsE ((es.drop k ++ es.take k).map FE.fd) (inpV qs (es.map FE.fd) (es.map FE.fd).length).1=0:=by
 have hB:=form_base hv hr
 have hO:=FcF.own_base hB
 have hO2:=FcF.own_base (rot_base hB k hk)
 have hgood:=good_in hO qs
 refine good_facts ⟨fun x hx => ?_,hgood.nd⟩
 obtain ⟨j,hj,r,_,h2,rfl⟩:=inpV_mem qs _ _ x hx
 have hm:(es.map FE.fd)[j] ∈ (es.drop k ++ es.take k).map FE.fd:=by
  obtain ⟨e,he,e1⟩:=List.mem_map.1 (List.getElem_mem hj)
  rw [← e1]
  exact List.mem_map.2 ⟨e,rot_mem.2 he,rfl⟩
 obtain ⟨m,hm,e⟩:=List.getElem_of_mem hm
 rw [← e] at h2 ⊢
 exact told_in hO2 m hm h2 r
theorem fts_turn {F:List Fw} (ha:Apart F) (k:Nat) (s:ByteArray):fieldT (ftsW (turn F k)) s=fieldT (ftsW F) s:=by
 have e1:ftsW F=ftsW (F.take k) ++ ftsW (F.drop k):=by
  conv => lhs; rw [← List.take_append_drop k F]
  unfold ftsW; rw [List.map_append]
 have e2:ftsW (turn F k)=ftsW (F.drop k) ++ ftsW (F.take k):=by unfold turn ftsW; rw [List.map_append]
 rw [e1,e2]
 refine fieldT_swap ?_ s
 rw [← e1,List.nodup_iff_pairwise_ne,List.pairwise_iff_getElem]
 intro i j hi hj hij e
 have h1:i < F.length:=by simpa [ftsW] using hi
 have h2:j < F.length:=by simpa [ftsW] using hj
 simp only [ftsW,List.map_map,List.getElem_map,Function.comp_apply] at e
 have:=ha i j h1 h2 e
 omega
theorem orc_turn {an:Fw->Vl->Vl} {F:List Fw} {out:List Fo} (ha:Apart F) (h:OrcOk an F out) (k:Nat):OrcOk an (turn F k) out :=
 ⟨fun o ho => by
  obtain ⟨f,hf,h1,h2,h3,h4,h5⟩:=h.each o ho
  exact ⟨f,turn_mem.2 hf,h1,h2,h3,by rw [h4,ty_congr f.x fun s _ => fts_turn ha k s],h5⟩,h.once⟩
theorem ans_turn {an:Fw->Vl->Vl} {F:List Fw} (h:AnOk an F) (k:Nat):AnOk an (turn F k):=fun f hf => h f (turn_mem.1 hf)
theorem allRot {rs:List Rw} {es:List FE} {ps:List PE} {FA:Option Addr} {fc:Nat} {PA:Option Addr} {pc:Nat} {qs:List Rw} {I:List Fc} {v:World} (h:GS es ps FA fc PA pc qs I v) {k:Nat} (hk:k < es.length) (hR:RotS rs es ps PA pc k v) (hfz:factsE ((es.drop k ++ es.take k).map FE.fd) I=0) (t:Nat) {vs:List Vl} (hvs:allV (I.map toO) (orcV ansV (I.map toO) (es.map toW) t) (es.map toW)=vs) {V:World} (hV:Below v.heap.size v V) {IA:Option Addr} {ic:Nat} (hi:FctIn I IA V) {OA:Option Addr} {oc:Nat} (ho:FctIn ((orcV ansV (I.map toO) (es.map toW) t).map ofO) OA V) {g c:Nat} (hfl:Flds V (some ⟨g,0,none⟩) ((es.drop k ++ es.take k).map FE.fd)) (hc:es.length<=c/\c<=maxLen) :
  Calls Tryz.prog 15 #[.agg #[.slice (some ⟨g,0,none⟩) es.length c,.slice PA ps.length pc],.slice IA I.length ic,.slice OA (orcV ansV (I.map toO) (es.map toW) t).length oc] V fun e w' => ∃ g2,e=.returned (.tuple #[.slice (some ⟨g2,0,none⟩) es.length es.length,.int .i64 0])/\V.heap.size<=g2/\RowV w' g2 (vs.drop k ++ vs.take k)/\Below V.heap.size V w':=by
 have hlr:=rot_len es k hk
 have hw:=hR.wf V g c hV hfl hc
 have hok:=okO h t
 have hap:=h.wf.wt.apart
 have hz:orcE ((es.drop k ++ es.take k).map FE.fd) (xOf (es.drop k ++ es.take k)) ((orcV ansV (I.map toO) (es.map toW) t).map ofO)=0 :=
  orc_good hw.src hw.check hw.wt (by rw [turn_w]; exact ans_turn (ans_ok h.wf.wt h.nms) k) (by rw [toO_of,turn_w]; exact orc_turn hap hok k)
 have h1:=all_any (ic:=ic) (oc:=oc) hw hi ho hfz hz (h.tab.below hV) (fun V' hV' => hR.ord V' g c (b_trans hV hV') (hfl.below hV') hc)
 rw [toO_of,List.length_map,turn_w,all_turned h.wf.wt.toWk (facts_oks h.fz) (oksO h t) k (by rw [List.length_map]; omega),hvs,hlr] at h1
 have hvl:vs.length=es.length:=by rw [← hvs,all_len,List.length_map]
 have htl:(turn vs k).length=es.length:=by rw [turn_len,hvl]
 unfold AllOut at h1
 rw [htl] at h1
 exact h1
end Wh16
end Go.Proofs.YtonlkmkfcaadlaaGreatDoor
