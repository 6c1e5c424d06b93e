/- What is proved: the Go law lychwaykeep.TextTurned returns true for all its arguments,and leaves them as they were. No condition. -/
import Derived.Test.YtjhhmdmmllblhaaGreatDoorTextTurnedW
namespace Go.Proofs.YtjhhmdmmllblhaaGreatDoor.textTurned
open ValM LexM NumM ExM NmM Kit ExL ExP ExN RawV Within RawL RawN GenL FldP FldR FldC FrmM Frm FrmT FrmO PgM PgA PgF RkM RkA RkD RkO RkS RkK ShT ShL ShG TxM TxR TxP TxT TxQ TxN TxF TxU TxK TxI TxV
open Go.ChangeShapes Go.WideShapes Go.ChangeAt Go.RowKit
open Go.ChangeMaps (open_string shut_string)
theorem star : "*" ++ "errors.errorString" = "*errors.errorString" := by decide
theorem row_es (u : TypeId) (h : Tryz.prog.typeName? 3 u = some "*errors.errorString") : u = 265 :=
 typeName_ptr_named (nm := "errors.errorString") (by rw [star]; kernel_rfl) (by kernel_rfl) (by decide) u (by rw [star]; exact h)
theorem ErrRange_of {W : World} (h : laidMetH Tryz.prog Rows.textTurnedRow.laid W) : ∃ p, W.var? Tryz.prog "strconv.ErrRange" = some #[.iface 265 p] := by
 have h0:laidMet Tryz.prog Rows.textTurnedRow.laid W:=by rw [MakeChecks.laidMetH_plain _ _ _ (by kernel_rfl)] at h; exact h
 obtain ⟨a0,s0,hv0,hc0,hs0,hz0⟩:=laid_sentinel (g:=9) (ti:=71) h0.tail.tail.tail.tail (by kernel_rfl) (by kernel_rfl) Tryz.underlying71 (row_es) Tryz.underlying265 Tryz.underlying267 rfl rfl Tryz.underlying9 (by kernel_rfl) (by kernel_rfl)
 exact ⟨_,hv0⟩
theorem ErrSyntax_of {W : World} (h : laidMetH Tryz.prog Rows.textTurnedRow.laid W) : ∃ p, W.var? Tryz.prog "strconv.ErrSyntax" = some #[.iface 265 p] := by
 have h0:laidMet Tryz.prog Rows.textTurnedRow.laid W:=by rw [MakeChecks.laidMetH_plain _ _ _ (by kernel_rfl)] at h; exact h
 obtain ⟨a0,s0,hv0,hc0,hs0,hz0⟩:=laid_sentinel (g:=8) (ti:=71) h0.tail.tail.tail.tail.tail (by kernel_rfl) (by kernel_rfl) Tryz.underlying71 (row_es) Tryz.underlying265 Tryz.underlying267 rfl rfl Tryz.underlying9 (by kernel_rfl) (by kernel_rfl)
 exact ⟨_,hv0⟩
theorem signs_of {W : World} (h : laidMetH Tryz.prog Rows.textTurnedRow.laid W) : StrTab.Is Tryz.prog W "lychway/lex.signs" [[60, 61], [33, 61], [60], [61], [43], [45], [42], [47], [37], [38], [40], [41], [44]] := by
 have h0:laidMet Tryz.prog Rows.textTurnedRow.laid W:=by rw [MakeChecks.laidMetH_plain _ _ _ (by kernel_rfl)] at h; exact h
 have h1:=h0.tail.tail.tail.tail.tail.tail
 exact StrTab.is_of_head (g:=6) (t:=219) (e:=9) (n:=13) (by kernel_rfl) (by kernel_rfl) Tryz.underlying219 Tryz.underlying9 (by kernel_rfl) (by kernel_rfl) h1
theorem kinds_of {W : World} (h : laidMetH Tryz.prog Rows.textTurnedRow.laid W) : StrTab.Is Tryz.prog W "lychway/text.kinds" [[], [105, 110, 112, 117, 116], [102, 111, 114, 109, 117, 108, 97], [108, 111, 111, 107, 117, 112]] := by
 have h0:laidMet Tryz.prog Rows.textTurnedRow.laid W:=by rw [MakeChecks.laidMetH_plain _ _ _ (by kernel_rfl)] at h; exact h
 have h1:=h0.tail.tail.tail.tail.tail.tail.tail.tail
 exact StrTab.is_of_head (g:=0) (t:=81) (e:=9) (n:=4) (by kernel_rfl) (by kernel_rfl) Tryz.underlying81 Tryz.underlying9 (by kernel_rfl) (by kernel_rfl) h1
theorem types_of {W : World} (h : laidMetH Tryz.prog Rows.textTurnedRow.laid W) : StrTab.Is Tryz.prog W "lychway/text.types" [[], [105, 110, 116], [98, 111, 111, 108], [116, 101, 120, 116]] := by
 have h0:laidMet Tryz.prog Rows.textTurnedRow.laid W:=by rw [MakeChecks.laidMetH_plain _ _ _ (by kernel_rfl)] at h; exact h
 have h1:=h0.tail.tail.tail.tail.tail.tail.tail.tail.tail
 exact StrTab.is_of_head (g:=1) (t:=81) (e:=9) (n:=4) (by kernel_rfl) (by kernel_rfl) Tryz.underlying81 Tryz.underlying9 (by kernel_rfl) (by kernel_rfl) h1
theorem not_of {W:World} (h:laidMetH Tryz.prog Rows.textTurnedRow.laid W):ExN.Tab W:=by
 have h0:laidMet Tryz.prog Rows.textTurnedRow.laid W:=by rw [MakeChecks.laidMetH_plain _ _ _ (by kernel_rfl)] at h; exact h
 have h1:=h0.tail.tail.tail.tail.tail.tail.tail
 exact NotTab.is_of_head (g:=3) (t:=149) (e:=148) (n:=19) (by kernel_rfl) (by kernel_rfl) Tryz.underlying149 (by kernel_rfl) Tryz.underlying148 (by kernel_rfl) rfl rfl rfl Tryz.underlying9 Tryz.underlying3 Tryz.underlying3 (by kernel_rfl) (by kernel_rfl) (by kernel_rfl) h1
theorem pow_of {W:World} (h:laidMetH Tryz.prog Rows.textTurnedRow.laid W):Show.Pow W:=by
 have h0:laidMet Tryz.prog Rows.textTurnedRow.laid W:=by rw [MakeChecks.laidMetH_plain _ _ _ (by kernel_rfl)] at h; exact h
 have h1:=h0.tail.tail
 exact Lib.tabIs_of_head (k:=.u64) (zs:=Lib.pow10Tab) (g:=7) (t:=243) (e:=201) (n:=20) (by kernel_rfl) (by kernel_rfl) Tryz.underlying243 Tryz.underlying201 (by kernel_rfl) (by kernel_rfl) h1
/-! ### The row's step -/
set_option maxRecDepth 100000 in
theorem lifted (os:Os) (started:os.Started) (H:Type) (enc:TypeId × Value->H) :
  ReturnsInHanded {} Tryz.checked os 3 .any (fun w args => (Rows.textTurnedSpec.pre enc Tryz.prog Tryz.f3 [] false w args/\laidMetH Tryz.prog Rows.textTurnedRow.laid w)/\sizedMet enc Tryz.prog Tryz.f3 (OpenSpec.ofChange Rows.textTurnedSpec) false w args) (Rows.textTurnedSpec.post enc Tryz.prog Tryz.f3 false true false false):=by
 refine ShA.and_shaped (C:=Tryz.checked) (X:=fun w _ => laidMetH Tryz.prog Rows.textTurnedRow.laid w) (fun _ _ _ hh h => h.of_heap hh) own started (by kernel_rfl) Tryz.func3
  (ChangeSpec.witness_shaped (enc:=enc) (C:=Tryz.checked) (os:=os) (X:=fun w _ => laidMetH Tryz.prog Rows.textTurnedRow.laid w) false (World.laidAll Tryz.prog os Rows.textTurnedRow.laid) #[.slice none 0 0,.int .i64 0] 8 (World.laidAll_os _ _ _) (World.shaped_of_ZipB (by kernel_rfl) (by kernel_rfl)) (by kernel_rfl) (by kernel_rfl) (by kernel_rfl) (by rw [MakeChecks.laidMetH_plain _ _ _ (by kernel_rfl)]; exact laidMet_laidAll _ (by kernel_rfl) (by kernel_rfl))) ?_
 intro W base args ds gs before hval0 hW hcnd hsz hL hsh _
 have hval:∀ (j:Nat) t v,Tryz.f3.params[j]?=some t->args[j]?=some v->Value.okWide Tryz.prog W .any base t v:=hval0
 have hW':=hW
 obtain ⟨p,q,hA0,hV,rfl,hfz,hnd⟩:=hW
 have hA:DataW.TrodAll enc Tryz.prog W 0 (fun _ => true) true Tryz.f3.params.toList args.toList ds p:=hA0
 rw [Tryz.params3] at hA hval
 obtain ⟨v0,vs0,d0,ds0,p0,q0,hargs,rfl,rfl,h0,r0⟩:=trodAll_cons hA
 obtain ⟨v1,vs1,d1,ds1,p1,q1,rfl,rfl,rfl,h1,r1⟩:=trodAll_cons r0
 obtain ⟨rfl,rfl,rfl⟩:=trodAll_nil r1
 obtain rfl:args=#[v0,v1]:=by cases args; simp_all
 obtain ⟨rfl,rfl⟩:=trodVars_none hV
 have k0:=h0
 have lt0:∀ x ∈ p0,x.block < W.heap.size:=by obtain ⟨m,hm⟩:=k0; exact DataW.trod_lt m _ _ _ hm
 obtain ⟨A0,n0,c0,rfl,hraw0⟩:=RawO.open_raws (hval 0 22 v0 rfl rfl) h0
 have k1:=h1
 have lt1:∀ x ∈ p1,x.block < W.heap.size:=by obtain ⟨m,hm⟩:=k1; exact DataW.trod_lt m _ _ _ hm
 obtain ⟨a1,rfl,rfl,rfl,w1⟩:=open_int Tryz.underlying3 (hval 1 3 v1 rfl rfl) h1
 clear hA0 hval0
 refine (walk A0 n0 c0 a1 w1 W hraw0 (not_of hL) (pow_of hL) (ErrRange_of hL) (ErrSyntax_of hL) (signs_of hL) (kinds_of hL) (types_of hL) (Go.Proofs.cell_of_shapedOpen_int (zero:=#[.int .i64 0]) (t:=3) hsh (of_decide_eq_true (by kernel_rfl)) (by kernel_rfl) rfl (by kernel_rfl) (by kernel_rfl) Tryz.underlying3)).mono fun e W' ⟨he,bel⟩ => ?_
 subst he
 exact ⟨_,rfl,_,_,_,[],_,[],hW',trodAll_mk1 (shut_bool Tryz.underlying4 _),(trodAll_cons_mk (Below.trod laidOut (by kernel_rfl) (of_decide_eq_true (by kernel_rfl)) k0 bel lt0) (trodAll_cons_mk (Below.trod laidOut (by kernel_rfl) (of_decide_eq_true (by kernel_rfl)) k1 bel lt1) trodAll_mk0)),rfl,bel.frame _,fun h => by cases h⟩
end Go.Proofs.YtjhhmdmmllblhaaGreatDoor.textTurned
