/- Contracts of the method evaluate and of eval.Of. -/
import Derived.Test.YtehkebncdahmcaaDoorEvCond
import Derived.Test.YtehkebncdahmcaaDoorEvRow
import Derived.Test.YtehkebncdahmcaaDoorExCheck
namespace Go.Proofs.YtehkebncdahmcaaDoor.EvE
open Go.RowKit Go.Maps
open NumM ValM StrM ExM TyM EvM Kit Ev EvC EvO EvF EvS EvN EvR ExL ExV ExN
set_option linter.unusedVariables false

theorem infoV : (Tryd.prog.info? 23).map (fun i => (i.zero, i.size, i.bytes)) = some (some (.agg #[.int .i64 0, .int .i64 0, .string ⟨#[]⟩]), 3, 32) := by kernel_rfl
theorem tlen3 {α : Type} {l : List α} (h : l.length = 3) : ∃ a b c, l = [a, b, c] := by
  match l, h with
  | [a, b, c], _ => exact ⟨a, b, c, rfl⟩
theorem tlen2 {α : Type} {l : List α} (h : l.length = 2) : ∃ a b, l = [a, b] := by
  match l, h with
  | [a, b], _ => exact ⟨a, b, rfl⟩
set_option maxRecDepth 100000 in
set_option maxHeartbeats 4000000 in
theorem evaluate_any (fs : List (ByteArray × Vl)) (m : Nat) (hfs : ∀ f ∈ fs, f.2.ok) : ∀ x : Ex, x.okN → EvAt fs m x := by
  refine Ex.ind fun d l ih => ?_
  intro hok d' A n c w his hm
  have his0 := his
  rw [is_mk] at his
  obtain ⟨rfl, rfl, ⟨hmx, _, hnm⟩, his⟩ := his
  obtain ⟨o1, o2, o3⟩ := okN_op hok
  have hokl := ((okN_mk d' l).1 hok).2
  have hev : ∀ x ∈ l, EvAt fs m x := fun x hx => ih x hx (hokl x hx)
  have hoke : ∀ x ∈ l, (Ex.ev fs x).ok := fun x hx => ev_ok hfs x (hokl x hx)
  have hevn : Ex.ev fs (.mk d' l) = evN fs d' (evL fs l) := ev_mk fs d' l
  obtain ⟨R, hR⟩ : ∃ R, Ex.ev fs (.mk d' l) = R := ⟨_, rfl⟩
  rw [hR]
  rw [hR] at hevn
  clear ih hokl hR hok
  obtain ⟨a1, a2, a3, a4, _⟩ := arity_cases d'.op
  -- the box of the formula, the result's block
  have hb0 := b_new w (.cells #[.int .i64 d'.op, .int .i64 d'.k, .int .i64 d'.n, .string d'.s, .string d'.nm, .slice A l.length c] 26)
  have hb1 := b_more hb0 (.cells #[.int .i64 0, .int .i64 0, .string ⟨#[]⟩] 23)
  have hz0 := BV.new (w.alloc (.cells #[.int .i64 d'.op, .int .i64 d'.k, .int .i64 d'.n, .string d'.s, .string d'.nm, .slice A l.length c] 26)) 0 0 ⟨#[]⟩
  have hbx := (Box.new w d' A l.length c).below (b_new _ (.cells #[.int .i64 0, .int .i64 0, .string ⟨#[]⟩] 23))
  rw [World.size_alloc] at hz0
  by_cases p1 : d'.op = 1
  · obtain rfl : R = ⟨d'.k, d'.n, d'.s⟩ := by rw [hevn]; unfold evN; rw [if_pos p1]
    obtain ⟨dop, dk, dn, ds, dnm⟩ := d'
    obtain rfl : dop = 1 := p1
    clear hevn his his0 hm hev hoke o3 a1 a2 a3 a4 hb0 hb1 hz0 hbx
    go_enter Tryd.func14, Tryd.ntmps14
    go_wp2_with fail
    refine bodyPost_ret (v := .agg #[.int .i64 dk, .int .i64 dn, .string ds]) (by simp [results, Tryd.results14, go_sem]) rfl ⟨rfl, b_more (b_new _ _) _⟩
  -- one call, then the store of the result
  by_cases pone : d'.op = 2 ∨ d'.op = 15 ∨ d'.op = 16 ∨ d'.op = 17
  · have HZ := Lib.hid hz0
    have HB := Lib.hid hb1
    obtain ⟨rk, rn, rs⟩ := R
    rcases pone with p | p | p | p
    · have hc := fun W (hb : Below w.heap.size w W) => field_any fs m d'.nm hnm W (hm.below hb)
      rw [show factV fs d'.nm = ⟨rk, rn, rs⟩ by rw [hevn]; unfold evN; rw [if_neg (by omega), if_pos p]] at hc
      have HC := Lib.hid hc
      obtain ⟨dop, dk, dn, ds, dnm⟩ := d'
      obtain rfl : dop = 2 := p
      clear hevn his his0 hm hev hoke o3 a1 a2 a3 a4 hb0 hb1 hz0 hbx hc p1 o1 o2
      go_enter Tryd.func14, Tryd.ntmps14
      go_wp2_with fail
      refine (HC.out _ HB.out).mono ?_; rintro e w1 ⟨rfl, hb2⟩
      have hz1 := HZ.out.below hb2
      have hbE := b_set3 (b_then (b_then hb2)) (w.heap.size + 1) (by omega) (.int .i64 rk) (.int .i64 rn) (.string rs)
      obtain ⟨u0, u1, u2⟩ := hz1.cells
      have v0 := hz1.frozen
      have zl2 := hz1.lt
      clear hz1 hb2
      go_wp2_with fail
      refine bodyPost_ret (v := .agg #[.int .i64 rk, .int .i64 rn, .string rs]) (by simp [results, Tryd.results14, go_sem, u0, u1, u2]) rfl ⟨rfl, hbE⟩
    · obtain ⟨x0, x1, rfl⟩ := tlen2 (o3.trans (a2 (.inl p)))
      have hc := fun W (hb : Below w.heap.size w W) => con_and fs m x0 x1 (hev x0 (by simp)) (hev x1 (by simp)) (hoke x0 (by simp)) d' p A c W (his0.below hb) (hm.below hb)
      rw [show conV true [Ex.ev fs x0, Ex.ev fs x1] = ⟨rk, rn, rs⟩ by rw [hevn]; unfold evN; rw [if_neg (by omega), if_neg (by omega), if_neg (by omega), if_pos p, evL_cons, evL_cons, evL_nil]] at hc
      have HC := Lib.hid hc
      obtain ⟨dop, dk, dn, ds, dnm⟩ := d'
      obtain rfl : dop = 15 := p
      clear hevn his his0 hm hev hoke o3 a1 a2 a3 a4 hb0 hb1 hz0 hbx hc p1 o1 o2
      go_enter Tryd.func14, Tryd.ntmps14
      go_wp2_with fail
      refine (HC.out _ HB.out).mono ?_; rintro e w1 ⟨rfl, hb2⟩
      have hz1 := HZ.out.below hb2
      have hbE := b_set3 (b_then (b_then hb2)) (w.heap.size + 1) (by omega) (.int .i64 rk) (.int .i64 rn) (.string rs)
      obtain ⟨u0, u1, u2⟩ := hz1.cells
      have v0 := hz1.frozen
      have zl2 := hz1.lt
      clear hz1 hb2
      go_wp2_with fail
      refine bodyPost_ret (v := .agg #[.int .i64 rk, .int .i64 rn, .string rs]) (by simp [results, Tryd.results14, go_sem, u0, u1, u2]) rfl ⟨rfl, hbE⟩
    · obtain ⟨x0, x1, rfl⟩ := tlen2 (o3.trans (a2 (.inr p)))
      have hc := fun W (hb : Below w.heap.size w W) => con_or fs m x0 x1 (hev x0 (by simp)) (hev x1 (by simp)) (hoke x0 (by simp)) d' p A c W (his0.below hb) (hm.below hb)
      rw [show conV false [Ex.ev fs x0, Ex.ev fs x1] = ⟨rk, rn, rs⟩ by rw [hevn]; unfold evN; rw [if_neg (by omega), if_neg (by omega), if_neg (by omega), if_neg (by omega), if_pos p, evL_cons, evL_cons, evL_nil]] at hc
      have HC := Lib.hid hc
      obtain ⟨dop, dk, dn, ds, dnm⟩ := d'
      obtain rfl : dop = 16 := p
      clear hevn his his0 hm hev hoke o3 a1 a2 a3 a4 hb0 hb1 hz0 hbx hc p1 o1 o2
      go_enter Tryd.func14, Tryd.ntmps14
      go_wp2_with fail
      refine (HC.out _ HB.out).mono ?_; rintro e w1 ⟨rfl, hb2⟩
      have hz1 := HZ.out.below hb2
      have hbE := b_set3 (b_then (b_then hb2)) (w.heap.size + 1) (by omega) (.int .i64 rk) (.int .i64 rn) (.string rs)
      obtain ⟨u0, u1, u2⟩ := hz1.cells
      have v0 := hz1.frozen
      have zl2 := hz1.lt
      clear hz1 hb2
      go_wp2_with fail
      refine bodyPost_ret (v := .agg #[.int .i64 rk, .int .i64 rn, .string rs]) (by simp [results, Tryd.results14, go_sem, u0, u1, u2]) rfl ⟨rfl, hbE⟩
    · obtain ⟨x0, x1, x2, rfl⟩ := tlen3 (o3.trans (a1 p))
      have hc := fun W (hb : Below w.heap.size w W) => choice_any fs m x0 x1 x2 (hev x0 (by simp)) (hev x1 (by simp)) (hev x2 (by simp)) (hoke x0 (by simp)) d' A c W (his0.below hb) (hm.below hb)
      rw [show choV [Ex.ev fs x0, Ex.ev fs x1, Ex.ev fs x2] = ⟨rk, rn, rs⟩ by rw [hevn]; unfold evN; rw [if_neg (by omega), if_neg (by omega), if_pos p, evL_cons, evL_cons, evL_cons, evL_nil]] at hc
      have HC := Lib.hid hc
      obtain ⟨dop, dk, dn, ds, dnm⟩ := d'
      obtain rfl : dop = 17 := p
      clear hevn his his0 hm hev hoke o3 a1 a2 a3 a4 hb0 hb1 hz0 hbx hc p1 o1 o2
      go_enter Tryd.func14, Tryd.ntmps14
      go_wp2_with fail
      refine (HC.out _ HB.out).mono ?_; rintro e w1 ⟨rfl, hb2⟩
      have hz1 := HZ.out.below hb2
      have hbE := b_set3 (b_then (b_then hb2)) (w.heap.size + 1) (by omega) (.int .i64 rk) (.int .i64 rn) (.string rs)
      obtain ⟨u0, u1, u2⟩ := hz1.cells
      have v0 := hz1.frozen
      have zl2 := hz1.lt
      clear hz1 hb2
      go_wp2_with fail
      refine bodyPost_ret (v := .agg #[.int .i64 rk, .int .i64 rn, .string rs]) (by simp [results, Tryd.results14, go_sem, u0, u1, u2]) rfl ⟨rfl, hbE⟩
  -- all operands
  obtain ⟨p2, p15, p16, p17⟩ : d'.op ≠ 2 ∧ d'.op ≠ 15 ∧ d'.op ≠ 16 ∧ d'.op ≠ 17 := ⟨fun h => pone (.inl h), fun h => pone (.inr (.inl h)), fun h => pone (.inr (.inr (.inl h))), fun h => pone (.inr (.inr (.inr h)))⟩
  obtain rfl : R = opV d'.op (evL fs l) := by rw [hevn]; unfold evN; rw [if_neg p1, if_neg p2, if_neg p17, if_neg p15, if_neg p16]
  have hl3 : l.length ≤ 3 := by rw [o3]; exact (a3 p1 p2).2
  have hpos : 1 ≤ l.length := by rw [o3]; exact (a3 p1 p2).1
  have hokes : ∀ v ∈ evL fs l, v.ok := fun v hv => by
    rw [evL_map] at hv
    obtain ⟨x, hx, rfl⟩ := List.mem_map.1 hv
    exact hoke x hx
  have hop := fun g W (h : Vals W g (evL fs l)) => operation_any d'.op (evL fs l) g l.length W (by omega) o2 ⟨p15, p16, p17⟩ (by rw [evL_len, o3]) hokes h
  obtain ⟨r, hr⟩ : ∃ r, opV d'.op (evL fs l) = r := ⟨_, rfl⟩
  rw [hr] at hop ⊢
  rw [evL_len] at hop
  obtain ⟨rk, rn, rs⟩ := r
  obtain ⟨i0, hi, hz0', hz1, hz2⟩ := info_parts infoV
  have HS := Lib.hid his
  have HOp := Lib.hid hop
  have HEv := Lib.hid hev
  have HMp := Lib.hid hm
  have u1 : (d'.op == 1) = false := beq_eq_false_iff_ne.2 p1
  have u2 : (d'.op == 2) = false := beq_eq_false_iff_ne.2 p2
  have u15 : (d'.op == 15) = false := beq_eq_false_iff_ne.2 p15
  have u16 : (d'.op == 16) = false := beq_eq_false_iff_ne.2 p16
  have u17 : (d'.op == 17) = false := beq_eq_false_iff_ne.2 p17
  have HIn := Lib.hid (fun (V W1 : World) (hb : Below w.heap.size w V) (g : Nat) (hg : V.heap.size = g) (h1 : W1.ownsRow w.heap.size 23 3 (.slice (some ⟨g, 0, none⟩) l.length l.length) l.length (madeCells (Value.agg #[.int .i64 0, .int .i64 0, .string ⟨#[]⟩]).cells (l.length * 3)).toList) (h2 : V.grownBy W1 none) =>
    (⟨Nat.zero_le _, ⟨_, row_of h1, by rw [List.length_replicate, evL_len], fun i _ _ h => absurd h (by omega)⟩, hb.grown h2 hb.size (fun k e => by cases e)⟩ : EInv w g (evL fs l) 0 W1))
  have HBx := Lib.hid hbx
  have HZ := Lib.hid hz0
  have HB := Lib.hid hb1
  have hlen := evL_len fs l
  have HLn := Lib.hid hlen
  clear hr hop hevn his his0 hm hev hoke hokes o3 a1 a2 a3 a4 hb0 hb1 hz0 hbx pone p1 p2 p15 p16 p17 hmx hlen
  go_enter Tryd.func14, Tryd.ntmps14
  go_wp2_with ((at_make; refine wpList_make_full _ rfl _ _ 70 rfl w.heap.size 23 i0 _ 3 Tryd.underlying70 hi hz0' hz1 .i64 .i64 _ _ l.length rfl rfl rfl rfl (by rw [hz2]; omega) (by unfold maxLen; omega) (by simp; omega) ?_; intro w1 hown hgrow; obtain ⟨b0, b1, b2, b3, b4, b5⟩ := (HBx.out.below (⟨hgrow.os, hgrow.tape, hgrow.output, hgrow.size, fun k hk => hgrow.block k hk (by simp)⟩ : Below _ _ _)).cells))
  rw [World.size_alloc, World.size_alloc] at hown
  have hbg : Below ((w.alloc (.cells #[.int .i64 d'.op, .int .i64 d'.k, .int .i64 d'.n, .string d'.s, .string d'.nm, .slice A l.length c] 26)).alloc (.cells #[.int .i64 0, .int .i64 0, .string ⟨#[]⟩] 23)).heap.size ((w.alloc (.cells #[.int .i64 d'.op, .int .i64 d'.k, .int .i64 d'.n, .string d'.s, .string d'.nm, .slice A l.length c] 26)).alloc (.cells #[.int .i64 0, .int .i64 0, .string ⟨#[]⟩] 23)) w1 := ⟨hgrow.os, hgrow.tape, hgrow.output, hgrow.size, fun k hk => hgrow.block k hk (by simp)⟩
  have hI := HIn.out _ w1 HB.out (w.heap.size + 1 + 1) (by simp) hown hgrow
  have HI0 := Lib.hid hI
  have HBx1 := Lib.hid (HBx.out.below hbg)
  have HZ1 := Lib.hid (HZ.out.below hbg)
  clear hown hgrow hbg hI b0 b1 b2 b3 b4 b5 HIn HBx HZ
  go_loopw [6, 7, 38] (fun _ _ i wr => ∃ k : Nat, i = .int .i64 k ∧ EInv w (w.heap.size + 1 + 1) (evL fs l) k wr ∧ Box wr w.heap.size d' A l.length c ∧ BV wr (w.heap.size + 1) 0 0 ⟨#[]⟩) (fun _ _ i _ => l.length - (intOf i).toNat)
  case atStart => exact ⟨0, rfl, HI0.out, HBx1.out, HZ1.out⟩
  case round =>
    obtain ⟨k, rfl, hE, hX, hZ⟩ := hrel
    have hk := hE.le
    rw [HLn.out] at hk
    have HE := Lib.hid hE
    have HX := Lib.hid hX
    have HZ := Lib.hid hZ
    clear hE hX hZ
    by_cases hlt : k < l.length
    · obtain ⟨a, d2, B, m2, c2, rfl, hat, hi⟩ := HS.out k hlt
      have hbw := HE.out.below
      obtain ⟨h0, h1, h2, h3, h4, h5⟩ := hat.below hbw
      obtain ⟨⟨x0, e0⟩, ⟨x1, e1⟩, ⟨x2, e2⟩, efz, elt⟩ := HE.out.cells (by rw [HLn.out]; exact hlt)
      have hc := HEv.out _ (List.getElem_mem hlt) d2 B m2 c2 (wr.alloc (.cells #[.int .i64 d2.op, .int .i64 d2.k, .int .i64 d2.n, .string d2.s, .string d2.nm, .slice B m2 c2] 26)) ((hi.below hbw).alloc _) ((HMp.out.below hbw).below (b_new _ _))
      have hst := fun W1 (hb : Below wr.heap.size wr W1) => HE.out.step (by rw [HLn.out]; exact hlt) hb (by omega)
      have hek : (evL fs l)[k]'(by rw [HLn.out]; exact hlt) = Ex.ev fs l[k] := evL_get fs l k hlt _
      rw [hek] at hst
      obtain ⟨v, hv⟩ : ∃ v, Ex.ev fs l[k] = v := ⟨_, rfl⟩
      rw [hv] at hc hst
      obtain ⟨vk, vn, vs⟩ := v
      simp only at hc hst
      have HC := Lib.hid hc
      have HSt := Lib.hid hst
      have HBW := Lib.hid hbw
      have xl := HX.out.lt
      have zl := HZ.out.lt
      clear hc hst hek hv hi hat hbw
      go_wp2_with fail
      refine HC.out.mono ?_; rintro e w2 ⟨rfl, hb2⟩
      have hb3 := b_then hb2
      have f0 := (hb3.cell (p := ⟨w.heap.size + 1 + 1, k * 3, none⟩) elt).trans e0
      have f1 := (hb3.cell (p := ⟨w.heap.size + 1 + 1, k * 3 + 1, none⟩) elt).trans e1
      have f2 := (hb3.cell (p := ⟨w.heap.size + 1 + 1, k * 3 + 2, none⟩) elt).trans e2
      have ff : ∀ o, w2.frozen? ⟨w.heap.size + 1 + 1, o, none⟩ = false := fun o => (hb3.frozen (p := ⟨w.heap.size + 1 + 1, o, none⟩) elt).trans (efz o)
      have HI3 := Lib.hid (HSt.out w2 hb3)
      have HX3 := Lib.hid (HX.out.below hb3)
      have HZ3 := Lib.hid (HZ.out.below hb3)
      clear hb2 hb3 h0 h1 h2 h3 h4 h5 e0 e1 e2 efz
      go_wp2_with fail
      go_roundw
      case rel => exact ⟨k + 1, by go_num, HI3.out, ((HX3.out.far (p := ⟨w.heap.size + 1 + 1, k * 3, none⟩) (by show w.heap.size ≠ w.heap.size + 1 + 1; omega) _).far (p := ⟨w.heap.size + 1 + 1, k * 3 + 1, none⟩) (by show w.heap.size ≠ w.heap.size + 1 + 1; omega) _).far (p := ⟨w.heap.size + 1 + 1, k * 3 + 2, none⟩) (by show w.heap.size ≠ w.heap.size + 1 + 1; omega) _, (Below.heap_setCell _ ⟨w.heap.size + 1 + 1, k * 3 + 2, none⟩ _ (w.heap.size + 1) (by simp)).trans ((Below.heap_setCell _ ⟨w.heap.size + 1 + 1, k * 3 + 1, none⟩ _ (w.heap.size + 1) (by simp)).trans ((Below.heap_setCell _ ⟨w.heap.size + 1 + 1, k * 3, none⟩ _ (w.heap.size + 1) (by simp)).trans HZ3.out))⟩
      case measure => simp [intOf]; omega
    · have hkl : k = l.length := by omega
      subst hkl
      have hE := HE.out
      rw [← HLn.out] at hE
      have hop := HOp.out (w.heap.size + 1 + 1) wr hE.vals
      have HO := Lib.hid hop
      have HBW := Lib.hid hE.below
      obtain ⟨b0, b1, b2, b3, b4, b5⟩ := HX.out.cells
      clear hE hop
      go_wp2_with fail
      refine HO.out.mono ?_; rintro e w2 ⟨rfl, hb2⟩
      have hz1 := HZ.out.below hb2
      have hbE := b_set3 (b_trans HBW.out hb2) (w.heap.size + 1) (by omega) (.int .i64 rk) (.int .i64 rn) (.string rs)
      obtain ⟨t0, t1, t2⟩ := hz1.cells
      have v0 := hz1.frozen
      have zl2 := hz1.lt
      clear hz1 hb2
      go_wp2_with fail
      refine bodyPost_ret (v := .agg #[.int .i64 rk, .int .i64 rn, .string rs]) (by simp [results, Tryd.results14, go_sem, t0, t1, t2]) rfl ⟨rfl, hbE⟩

theorem b_step {wc w w' : World} (h : Below wc.heap.size wc w) (h' : Below w.heap.size w w') : Below wc.heap.size wc w' := h.trans (h'.mono h.size)
set_option maxRecDepth 100000 in
set_option maxHeartbeats 2000000 in
theorem of_any (x : Ex) (l : List Fc) (FA : Option Addr) (fc : Nat) (d : Nd) (A : Option Addr) (n c : Nat) (w : World) (hl : l.length ≤ 1000000000000) (hnm : ∀ f ∈ l, f.nm.size ≤ maxLen) (his : Is w x d A n) (hf : Fcs w FA l) (hT : Tab w) :
    Calls Tryd.prog 5 #[.agg #[.int .i64 d.op, .int .i64 d.k, .int .i64 d.n, .string d.s, .string d.nm, .slice A n c], .slice FA l.length fc] w fun e w' => e = .returned (.tuple #[.agg #[.int .i64 (ofV (fcs l) x).k, .int .i64 (ofV (fcs l) x).n, .string (ofV (fcs l) x).s], .int .i64 (ofE (fcs l) x)]) ∧ Below w.heap.size w w' := by
  obtain ⟨R, hR⟩ : ∃ R, ofV (fcs l) x = R := ⟨_, rfl⟩
  obtain ⟨E, hE⟩ : ∃ E, ofE (fcs l) x = E := ⟨_, rfl⟩
  rw [hR, hE]
  have hck := fun W (hb : Below w.heap.size w W) => ExC.check_any x d A n c W (his.below hb) (hT.below hb)
  have hst := fun W (hb : Below w.heap.size w W) => stated_any l FA fc W hl hnm (hf.below hb)
  obtain ⟨e0, he0⟩ : ∃ e, x.checkE = e := ⟨_, rfl⟩
  obtain ⟨e1, he1⟩ : ∃ e, badF (fcs l) = e := ⟨_, rfl⟩
  rw [he0] at hck
  rw [he1] at hst
  have hev := fun m W (hb : Below w.heap.size w W) (h0 : e0 = 0) (h1 : e1 = 0) (hm : FM W m (fcs l)) => evaluate_any (fcs l) m ((badF_zero _).1 (he1.trans h1)) x (checkE_zero (he0.trans h0)).2.2 d A n c W (his.below hb) hm
  have hEE : E = if e0 = 0 then e1 else e0 := by rw [← hE]; unfold ofE; rw [he0, he1]
  have hRR : R = if E = 0 then Ex.ev (fcs l) x else zeroV := by rw [← hR]; unfold ofV; rw [hE]
  have hz0 := BV.new (w.alloc (.cells #[.int .i64 d.op, .int .i64 d.k, .int .i64 d.n, .string d.s, .string d.nm, .slice A n c] 26)) 0 0 ⟨#[]⟩
  have hbx := (Box.new w d A n c).below (b_new _ (.cells #[.int .i64 0, .int .i64 0, .string ⟨#[]⟩] 23))
  have hb1 := b_more (b_new w (.cells #[.int .i64 d.op, .int .i64 d.k, .int .i64 d.n, .string d.s, .string d.nm, .slice A n c] 26)) (.cells #[.int .i64 0, .int .i64 0, .string ⟨#[]⟩] 23)
  rw [World.size_alloc] at hz0
  have HCk := Lib.hid hck
  have HSt := Lib.hid hst
  have HEv := Lib.hid hev
  have HB := Lib.hid hb1
  have HZ := Lib.hid hz0
  have HX := Lib.hid hbx
  clear hck hst hev hb1 hz0 hbx hR hE he0 he1 his hf hT hnm
  go_enter Tryd.func5, Tryd.ntmps5
  go_wp2_with fail
  refine (HCk.out _ HB.out).mono ?_; rintro e w1 ⟨rfl, hb1⟩
  have HB1 := Lib.hid (b_then (b_then hb1))
  have HZ1 := Lib.hid (HZ.out.below hb1)
  have HX1 := Lib.hid (HX.out.below hb1)
  clear hb1
  by_cases h0 : e0 = 0
  · subst h0
    rw [if_pos rfl] at hEE
    subst hEE
    go_wp2_with fail
    refine (HSt.out _ HB1.out).mono ?_; rintro e w2 ⟨⟨mv, rfl, hmv⟩, hb2⟩
    have HB2 := Lib.hid (b_trans HB1.out hb2)
    have HZ2 := Lib.hid (HZ1.out.below hb2)
    have HX2 := Lib.hid (HX1.out.below hb2)
    have HMv := Lib.hid hmv
    clear hb2 hmv
    by_cases h1 : E = 0
    · subst h1
      rw [if_pos rfl] at hRR
      obtain ⟨m, rfl, hfm⟩ : ∃ m, mv = .map (some m) ∧ FM w2 m (fcs l) := by first | exact HMv.out rfl | exact HMv.out trivial
      have hc := HEv.out m w2 HB2.out (by first | trivial | rfl) (by first | trivial | rfl) hfm
      rw [← hRR] at hc
      obtain ⟨rk, rn, rs⟩ := R
      have HC := Lib.hid hc
      obtain ⟨b0, b1, b2, b3, b4, b5⟩ := HX2.out.cells
      clear hc hRR hfm
      go_wp2_with fail
      refine HC.out.mono ?_; rintro e w3 ⟨rfl, hb3⟩
      have hz1 := HZ2.out.below hb3
      have hbE := b_set3 (b_trans HB2.out hb3) (w.heap.size + 1) (by omega) (.int .i64 rk) (.int .i64 rn) (.string rs)
      obtain ⟨t0, t1, t2⟩ := hz1.cells
      have v0 := hz1.frozen
      have zl2 := hz1.lt
      clear hz1 hb3 b0 b1 b2 b3 b4 b5
      go_wp2_with fail
      refine bodyPost_ret (v := .tuple #[.agg #[.int .i64 rk, .int .i64 rn, .string rs], .int .i64 0]) (by simp [results, Tryd.results5, go_sem, t0, t1, t2]) rfl ⟨rfl, hbE⟩
    · rw [if_neg h1] at hRR
      subst hRR
      have tE : (E == 0) = false := beq_eq_false_iff_ne.2 h1
      obtain ⟨t0, t1, t2⟩ := HZ2.out.cells
      have v0 := HZ2.out.frozen
      have zl2 := HZ2.out.lt
      have hbE := b_set3 HB2.out (w.heap.size + 1) (by omega) (.int .i64 0) (.int .i64 0) (.string ⟨#[]⟩)
      have HBE := Lib.hid hbE
      clear hbE
      go_wp2_with fail
      refine bodyPost_ret (v := .tuple #[.agg #[.int .i64 0, .int .i64 0, .string ⟨#[]⟩], .int .i64 E]) (by simp [results, Tryd.results5, go_sem, t0, t1, t2]) rfl ⟨rfl, HBE.out⟩
  · rw [if_neg h0] at hEE
    subst hEE
    rw [if_neg h0] at hRR
    subst hRR
    have tE : (E == 0) = false := beq_eq_false_iff_ne.2 h0
    obtain ⟨t0, t1, t2⟩ := HZ1.out.cells
    have v0 := HZ1.out.frozen
    have zl2 := HZ1.out.lt
    have hbE := b_set3 HB1.out (w.heap.size + 1) (by omega) (.int .i64 0) (.int .i64 0) (.string ⟨#[]⟩)
    have HBE := Lib.hid hbE
    clear hbE
    go_wp2_with fail
    refine bodyPost_ret (v := .tuple #[.agg #[.int .i64 0, .int .i64 0, .string ⟨#[]⟩], .int .i64 E]) (by simp [results, Tryd.results5, go_sem, t0, t1, t2]) rfl ⟨rfl, HBE.out⟩
end Go.Proofs.YtehkebncdahmcaaDoor.EvE
