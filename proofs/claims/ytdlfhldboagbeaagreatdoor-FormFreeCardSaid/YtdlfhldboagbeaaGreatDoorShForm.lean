/- Package sheet on a form of the statements' generator, and on the small one. -/
import Derived.Test.YtdlfhldboagbeaaGreatDoorShLists
import Derived.Test.YtdlfhldboagbeaaGreatDoorPgForm
import Derived.Test.YtdlfhldboagbeaaGreatDoorRkForm
import Derived.Test.YtdlfhldboagbeaaGreatDoorShelf
namespace Go.Proofs.YtdlfhldboagbeaaGreatDoor.ShG
open Go.RowKit
open ValM LexM NumM ExM NmM Kit ExL ExP ExN RawV Within RawL RawN GenL FldP FldR FldC FrmM Frm FrmT FrmO PgM PgA PgF RkM RkA RkD RkO RkS RkK ShT ShL
set_option linter.unusedVariables false

/-- A row of numbers of one's own: is a number among them? -/
theorem containsN_any (L : List Int) (x : Int) (v : Value) (base : Nat) (w : World) (hl : L.length ≤ 1048576) (h : w.ownsRow base 3 1 v L.length (iV L)) :
    Calls Tryz.prog 22 #[v, .int .i64 x] w fun e w' => e = .returned (.bool (decide (x ∈ L))) ∧ w = w' := by
  have hc : L.contains x = decide (x ∈ L) := by rw [Bool.eq_iff_iff, List.contains_iff_mem, decide_eq_true_eq]
  obtain ⟨A, c, rfl, hr⟩ := IRow.of_own h
  rcases Nat.eq_zero_or_pos L.length with h0 | h0
  · have e0 : L = [] := List.eq_nil_of_length_eq_zero h0
    subst e0
    exact (Tryz.slices_Contains_int_empty A c x w).mono fun e w' h => ⟨by rw [h.1]; simp, h.2.symm⟩
  · obtain ⟨g, rfl, _⟩ := hr 0 h0
    have := Tryz.slices_Contains_int g 0 L.length c L x w (Nat.le_refl _) (by omega) (fun j hj => by
      obtain ⟨g', e, hc⟩ := hr j hj
      injection e with e; injection e with e _ _
      subst e
      rw [Nat.zero_add, hc]; rfl)
    rw [List.take_length, hc] at this
    exact this.mono fun e w' h => ⟨h.1, h.2.symm⟩
/-- A row of texts of one's own. -/
theorem containsS_any (L : List ByteArray) (s : ByteArray) (v : Value) (base : Nat) (w : World) (hl : L.length ≤ 1048576) (h : w.ownsRow base 9 1 v L.length (NmA.strV L)) :
    Calls Tryz.prog 21 #[v, .string s] w fun e w' => e = .returned (.bool (hasB L s)) ∧ w = w' := by
  obtain ⟨A, c, rfl, hr⟩ := NmA.SRow.of_own h
  exact containsT_any L s A c w (by unfold maxLen; omega) (TRow.of_srow hr)
/-- What sheet.Check says of a form. -/
theorem form_check {rs : List Rw} {es : List FE} {ps : List PE} {P Q : Nat → Prop} {w : World} {FA PA : Option Addr} {fc pc : Nat} (hv : es.map FE.v = formF rs) (hr : FRow P w FA es) (hpv : ps.map PE.v = formP rs) (hpr : PRow Q w PA ps) (hcap : es.length ≤ fc ∧ fc ≤ maxLen) (hpcap : ps.length ≤ pc ∧ pc ≤ maxLen) (hT : Tab w) :
    ∀ V, Below w.heap.size w V → Calls Tryz.prog 6 #[.agg #[.slice FA es.length fc, .slice PA ps.length pc]] V fun e w' => e = .returned (.int .i64 0) ∧ Below V.heap.size V w' := fun V hV => by
  have hR := form_rank (fc := fc) hv hr hcap hT
  obtain ⟨hpl, hgood, hgn, hsz⟩ := form_pages hv hr hpv hpr
  have hck := check_good hgood hgn
  have hcl := (form_places hv).1
  have hcb := countV_bd rs
  have hB := form_base hv hr
  have := ShT.check_any es.length FA fc ps.length PA pc 0 0 V (fun V' hV' => (hR.of V' (hV.trans (hV'.mono hV.size))).mono fun e w' h => by
    obtain ⟨g, cap, rfl, _, _, hb⟩ := h
    exact ⟨_, _, rfl, hb⟩) (fun _ V' hV' => by
    have hb := hV.trans (hV'.mono hV.size)
    have := PgB.check_any ps PA pc (es.map FE.fd) FA fc V' (by rw [List.length_map]; omega) ((frow_flds hr).below hb) (fun k hk => by
      rw [hB.nm k hk]
      have := nmK_size (plc rs k)
      unfold maxLen; omega) ((prow_pgs hpr).below hb) ((prow_ok hpr hsz).below hb) (by unfold maxLen; omega) (fun e he => by
      obtain ⟨k, hk, rfl⟩ := List.getElem_of_mem he
      obtain ⟨g, _, _, _, hi⟩ := hpr k hk
      have := hi.len; omega) (hT.below hb) hpcap
    rw [hck, List.length_map] at this
    exact this)
  rw [if_pos rfl] at this
  exact this
/-- And of the small one. -/
theorem small_check {es : List FE} {ps : List PE} {P Q : Nat → Prop} {w : World} {FA PA : Option Addr} {fc pc : Nat} (hv : es.map FE.v = smallV) (hr : FRow P w FA es) (hpv : ps.map PE.v = smallP) (hpr : PRow Q w PA ps) (hcap : es.length ≤ fc ∧ fc ≤ maxLen) (hpcap : ps.length ≤ pc ∧ pc ≤ maxLen) (hT : Tab w) :
    ∀ V, Below w.heap.size w V → Calls Tryz.prog 6 #[.agg #[.slice FA es.length fc, .slice PA ps.length pc]] V fun e w' => e = .returned (.int .i64 0) ∧ Below V.heap.size V w' := fun V hV => by
  obtain ⟨hF, hck, hnd⟩ := small_all hv hr
  have hl : (es.map FE.fd).length = es.length := List.length_map _
  have h3 := small_len hv
  obtain ⟨hpl, hpck, hsz⟩ := small_pages hv hpv hpr
  have := ShT.check_any es.length FA fc ps.length PA pc 0 0 V (fun V' hV' => by
    have hb := hV.trans (hV'.mono hV.size)
    have hof := of_ok (es.map FE.fd) (xOf es) FA fc V' (by rw [hl, h3]; decide) ((frow_flds hr).below hb) (hF.below hb) (hT.below hb) (by rw [hl]; exact hcap) hck (fun i hi => by
      rw [hnd, small_rank]
      rw [hl, h3] at hi
      obtain rfl | rfl | rfl : i = 0 ∨ i = 1 ∨ i = 2 := by omega
      all_goals decide)
    rw [hl] at hof
    refine hof.mono fun e w' h => ?_
    obtain ⟨v, rfl, _, hb⟩ := h
    exact ⟨_, _, rfl, hb⟩) (fun _ V' hV' => by
    have hb := hV.trans (hV'.mono hV.size)
    have := PgB.check_any ps PA pc (es.map FE.fd) FA fc V' (by rw [hl, h3]; decide) ((frow_flds hr).below hb) (fun k hk => small_nm hv k hk) ((prow_pgs hpr).below hb) ((prow_ok hpr hsz).below hb) (by unfold maxLen; omega) (fun e he => by
      obtain ⟨k, hk, rfl⟩ := List.getElem_of_mem he
      obtain ⟨g, _, _, _, hi⟩ := hpr k hk
      have := hi.len; omega) (hT.below hb) hpcap
    rw [hpck, List.length_map] at this
    exact this)
  rw [if_pos rfl] at this
  exact this
/-- In the small form b alone is free. -/
theorem small_free {es : List FE} {ps : List PE} (hv : es.map FE.v = smallV) (hpv : ps.map PE.v = smallP) : freeT (es.map FE.fd) ps (es.map FE.fd).length = [⟨#[98]⟩] := by
  have hl := small_len hv
  have hpl : ps.length = 2 := by
    have := congrArg List.length hpv
    simpa [smallP] using this
  match es, hv, hl, ps, hpv, hpl with
  | [a, b, c], h, _, [p, q], hp, _ =>
    simp only [List.map_cons, List.map_nil, smallV, List.cons.injEq, and_true] at h
    simp only [List.map_cons, List.map_nil, smallP, List.cons.injEq, and_true] at hp
    obtain ⟨h1, h2, h3⟩ := h
    obtain ⟨p1, p2⟩ := hp
    have e1 : a.fd.nm = ⟨#[98]⟩ := congrArg FV.nm h1
    have e2 : b.fd.nm = ⟨#[97]⟩ := congrArg FV.nm h2
    have e3 : c.fd.nm = ⟨#[99]⟩ := congrArg FV.nm h3
    have f1 : p.fs = [⟨#[97]⟩] := congrArg PV.fs p1
    have f2 : q.fs = [⟨#[99]⟩] := congrArg PV.fs p2
    have o1 : pOf [p, q] ⟨#[98]⟩ = 2 := by
      unfold pOf onP
      rw [List.findIdx_cons, List.findIdx_cons, f1, f2]; decide
    have o2 : pOf [p, q] ⟨#[97]⟩ = 0 := by
      unfold pOf onP
      rw [List.findIdx_cons, f1]; rfl
    have o3 : pOf [p, q] ⟨#[99]⟩ = 1 := by
      unfold pOf onP
      rw [List.findIdx_cons, List.findIdx_cons, f1, f2]; decide
    have s0 : freeT [a.fd, b.fd, c.fd] [p, q] (0 + 1) = freeT [a.fd, b.fd, c.fd] [p, q] 0 ++ [a.fd.nm] := freeT_yes (F := [a.fd, b.fd, c.fd]) (by simp) (by show ¬ pOf [p, q] a.fd.nm < 2; rw [e1, o1]; decide)
    have s1 : freeT [a.fd, b.fd, c.fd] [p, q] (1 + 1) = freeT [a.fd, b.fd, c.fd] [p, q] 1 := freeT_no (F := [a.fd, b.fd, c.fd]) (by simp) (by show pOf [p, q] b.fd.nm < 2; rw [e2, o2]; decide)
    have s2 : freeT [a.fd, b.fd, c.fd] [p, q] (2 + 1) = freeT [a.fd, b.fd, c.fd] [p, q] 2 := freeT_no (F := [a.fd, b.fd, c.fd]) (by simp) (by show pOf [p, q] c.fd.nm < 2; rw [e3, o3]; decide)
    show freeT [a.fd, b.fd, c.fd] [p, q] (2 + 1) = _
    rw [s2]
    show freeT [a.fd, b.fd, c.fd] [p, q] (1 + 1) = _
    rw [s1]
    show freeT [a.fd, b.fd, c.fd] [p, q] (0 + 1) = _
    rw [s0, e1]; rfl
end Go.Proofs.YtdlfhldboagbeaaGreatDoor.ShG
