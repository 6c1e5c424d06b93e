/- sheet.Copy; what two copies of a form have. -/
import Derived.Test.YtdlfhldboagbeaaGreatDoorFmCopy
import Derived.Test.YtdlfhldboagbeaaGreatDoorShLists
import Derived.Test.YtdlfhldboagbeaaGreatDoorFldCopyRef
import Derived.Test.YtdlfhldboagbeaaGreatDoorFldSame
import Derived.Test.YtdlfhldboagbeaaGreatDoorPgSame
namespace Go.Proofs.YtdlfhldboagbeaaGreatDoor.ShC
open Go.RowKit
open ValM LexM NumM ExM NmM Kit ExL ExP RawV Within GenL FldP FldR FrmM PgM NmA ShT FmC
set_option linter.unusedVariables false

/-- A form by its contents, as it lies there. -/
def FormAt (F : List GenL.Fd) (X : Nat → Ex) (P : List PE) (w : World) (v : Value) : Prop :=
  ∃ (G : List GenL.Fd) (GA : Option Addr) (gc : Nat) (L : List PE) (LA : Option Addr) (lc : Nat), v = .agg #[.slice GA G.length gc, .slice LA L.length lc] ∧ G.length = F.length ∧ L.length = P.length ∧ Flds w GA G ∧
    (∀ (k : Nat) (h : k < G.length) (h2 : k < F.length), G[k].nm = F[k].nm ∧ G[k].kind = F[k].kind ∧ G[k].ty = F[k].ty ∧ Is w (X k) G[k].d G[k].A G[k].n) ∧
    (∀ (i : Nat) (h : i < L.length) (h2 : i < P.length), L[i].nm = P[i].nm ∧ L[i].fs = P[i].fs ∧ L[i].x = P[i].x) ∧ Pgs w LA L ∧ (∀ e ∈ L, SRow w e.F e.fs ∧ Is w e.x e.x.d e.B e.m)
theorem srow_below {w w' : World} {A : Option Addr} {L : List ByteArray} (h : SRow w A L) (hb : Below w.heap.size w w') : SRow w' A L := fun j hj => by
  obtain ⟨g, e, hc⟩ := h j hj
  exact ⟨g, e, (hb.cell (p := ⟨g, j, none⟩) (cell_lt' hc)).trans hc⟩
theorem FormAt.below {F : List GenL.Fd} {X : Nat → Ex} {P : List PE} {w w' : World} {v : Value} (h : FormAt F X P w v) (hb : Below w.heap.size w w') : FormAt F X P w' v := by
  obtain ⟨G, GA, gc, L, LA, lc, e, h1, h2, h3, h4, h5, h6, h7⟩ := h
  exact ⟨G, GA, gc, L, LA, lc, e, h1, h2, h3.below hb, fun k a b => ⟨(h4 k a b).1, (h4 k a b).2.1, (h4 k a b).2.2.1, (h4 k a b).2.2.2.below hb⟩, h5, h6.below hb, fun q hq => ⟨srow_below (h7 q hq).1 hb, (h7 q hq).2.below hb⟩⟩
theorem two_pgs {w w' : World} {B : Nat} {A : Option Addr} {ps : List PE} (h2 : ∀ j, w.cell? ⟨B, j + 2, none⟩ = none) (hk : ∀ b, b ≠ B → w'.heap[b]? = w.heap[b]?) (h : Pgs w A ps) : Pgs w' A ps := fun i hi => by
  obtain ⟨ad, e, hf⟩ := h i hi
  refine ⟨ad, e, hf.of_block (hk _ (fun e => ?_))⟩
  have h6 := hf.2.2.1
  rw [e, h2] at h6; cases h6
theorem two_srow {w w' : World} {B : Nat} {A : Option Addr} {L : List ByteArray} (h2 : ∀ j s, w.cell? ⟨B, j, none⟩ ≠ some (.string s)) (hk : ∀ b, b ≠ B → w'.heap[b]? = w.heap[b]?) (h : SRow w A L) : SRow w' A L := fun j hj => by
  obtain ⟨g, e, hc⟩ := h j hj
  refine ⟨g, e, (World.cell?_of_block (a := ⟨g, j, none⟩) (hk g fun e => ?_)).trans hc⟩
  subst e
  exact h2 _ _ hc
theorem FormAt.two {F : List GenL.Fd} {X : Nat → Ex} {P : List PE} {w w' : World} {v : Value} {B : Nat} (h : FormAt F X P w v) (h2 : ∀ j, w.cell? ⟨B, j + 2, none⟩ = none) (h3 : ∀ j s, w.cell? ⟨B, j, none⟩ ≠ some (.string s)) (hk : ∀ b, b ≠ B → w'.heap[b]? = w.heap[b]?) : FormAt F X P w' v := by
  obtain ⟨G, GA, gc, L, LA, lc, e, g1, g2, g3, g4, g5, g6, g7⟩ := h
  exact ⟨G, GA, gc, L, LA, lc, e, g1, g2, two_flds h2 hk g3, fun k a b => ⟨(g4 k a b).1, (g4 k a b).2.1, (g4 k a b).2.2.1, two_is h2 hk _ _ _ _ (g4 k a b).2.2.2⟩, g5, two_pgs h2 hk g6, fun q hq => ⟨two_srow h3 hk (g7 q hq).1, two_is h2 hk _ _ _ _ (g7 q hq).2⟩⟩
set_option maxRecDepth 100000 in
set_option maxHeartbeats 8000000 in
/-- P12.4. -/
theorem copy_any (F : List GenL.Fd) (X : Nat → Ex) (FA : Option Addr) (fc : Nat) (P : List PE) (PA : Option Addr) (pc : Nat) (w : World)
    (h1 : ∀ V, Below w.heap.size w V → Calls Tryz.prog 25 #[.slice FA F.length fc] V (FldY.CopyOut F X V))
    (h2 : ∀ V, Below w.heap.size w V → Calls Tryz.prog 26 #[.slice PA P.length pc] V (PgD.Copied P V)) :
    Calls Tryz.prog 7 #[.agg #[.slice FA F.length fc, .slice PA P.length pc]] w fun e w' => ∃ v, e = .returned v ∧ FormAt F X P w' v ∧ Below w.heap.size w w' := by
  obtain ⟨W2, hW2⟩ : ∃ V, (w.alloc (frBox FA F.length fc PA P.length pc)).alloc (.cells #[.slice none 0 0, .slice none 0 0] 25) = V := ⟨_, rfl⟩
  obtain ⟨B1, hB1⟩ : ∃ B, w.heap.size = B := ⟨_, rfl⟩
  have hb2 : Below w.heap.size w W2 := by rw [← hW2]; exact b_more (b_new w _) _
  have hk1 : W2.heap[B1]? = some (.cells #[.slice FA F.length fc, .slice PA P.length pc] 25 (0, 0)) := by
    rw [← hW2, ← hB1, (b_new (w.alloc _) _).block _ (by simp)]
    exact World.alloc_heap_new w _
  have hk2 : W2.heap[B1 + 1]? = some (.cells #[.slice none 0 0, .slice none 0 0] 25 (0, 0)) := by
    rw [← hW2, ← hB1]
    have := World.alloc_heap_new (w.alloc (frBox FA F.length fc PA P.length pc)) (.cells #[.slice none 0 0, .slice none 0 0] 25)
    simpa using this
  have hbox : ∀ V, Below W2.heap.size W2 V → V.cell? ⟨B1, 0, none⟩ = some (.slice FA F.length fc) ∧ V.cell? ⟨B1, 1, none⟩ = some (.slice PA P.length pc) ∧ V.cell? ⟨B1 + 1, 0, none⟩ = some (.slice none 0 0) ∧ V.cell? ⟨B1 + 1, 1, none⟩ = some (.slice none 0 0) ∧ V.frozen? ⟨B1 + 1, 0, none⟩ = false ∧ V.frozen? ⟨B1 + 1, 1, none⟩ = false := fun V hV => by
    have e1 := (hV.block _ (Array.getElem?_eq_some_iff.1 hk1).1).trans hk1
    have e2 := (hV.block _ (Array.getElem?_eq_some_iff.1 hk2).1).trans hk2
    exact ⟨by simp [World.cell?, e1], by simp [World.cell?, e1], by simp [World.cell?, e2], by simp [World.cell?, e2], by simp [World.frozen?, e2], by simp [World.frozen?, e2]⟩
  have hset : ∀ (U : World) (u0 u1 : Value), Below W2.heap.size W2 U → ((U.setCell ⟨B1 + 1, 0, none⟩ u0).setCell ⟨B1 + 1, 1, none⟩ u1).cell? ⟨B1, 0, none⟩ = some (.slice FA F.length fc) ∧ ((U.setCell ⟨B1 + 1, 0, none⟩ u0).setCell ⟨B1 + 1, 1, none⟩ u1).cell? ⟨B1, 1, none⟩ = some (.slice PA P.length pc) := fun U u0 u1 hU => by
    have hh : ((U.setCell ⟨B1 + 1, 0, none⟩ u0).setCell ⟨B1 + 1, 1, none⟩ u1).heap[B1]? = U.heap[B1]? := by
      rw [Below.heap_setCell _ ⟨B1 + 1, 1, none⟩ _ B1 (by show B1 ≠ B1 + 1; omega), Below.heap_setCell _ ⟨B1 + 1, 0, none⟩ _ B1 (by show B1 ≠ B1 + 1; omega)]
    exact ⟨(World.cell?_of_block (a := ⟨B1, 0, none⟩) hh).trans (hbox U hU).1, (World.cell?_of_block (a := ⟨B1, 1, none⟩) hh).trans (hbox U hU).2.1⟩
  have hout : ∀ (w4 w5 : World) (e4 e5 : Value), Below W2.heap.size W2 w4 → FldY.CopyOut F X w4 (.returned e4) w4 → True := fun _ _ _ _ _ _ => trivial
  have hbl := Below.refl W2.heap.size W2
  obtain ⟨c0, c1, n0, n1, z0, z1⟩ := hbox W2 hbl
  have H1 := Lib.hid h1
  have H2 := Lib.hid h2
  have HW2 := Lib.hid hW2
  have HB1 := Lib.hid hB1
  have HB2 := Lib.hid hb2
  have HBox := Lib.hid hbox
  have HSet := Lib.hid hset
  have HK2 := Lib.hid hk2
  clear h1 h2 hW2 hB1 hb2 hbox hset hout hk1 hk2
  unfold frBox at HW2
  go_enter Tryz.func7, Tryz.ntmps7
  go_upto_region 1 with fail
  rw [HW2.out, HB1.out]
  go_region_held3 (fun V => V.cell? ⟨B1, 0, none⟩ = some (.slice FA F.length fc) ∧ V.cell? ⟨B1, 1, none⟩ = some (.slice PA P.length pc)) (first | (with_reducible exact HSet.out _ _ _ hbl) | (with_reducible exact ⟨(HBox.out _ hbl).1, (HBox.out _ hbl).2.1⟩) | (with_reducible exact ⟨(HBox.out _ (b_drew hbl)).1, (HBox.out _ (b_drew hbl)).2.1⟩)) (first | (go_at_call 25; (with_reducible refine (H1.out _ ?_).mono ?_); (first | exact b_trans HB2.out hbl | exact b_trans HB2.out (b_drew hbl)); rintro e w4 ⟨G, GA, gc, rfl, hG1, hG2, hG3, hb4⟩; have hbl : Below W2.heap.size W2 w4 := (by first | exact hbl.trans (hb4.mono hbl.size) | exact (b_drew hbl).trans (hb4.mono hbl.size)); obtain ⟨c0, c1, n0, n1, z0, z1⟩ := HBox.out w4 hbl; have HG := Lib.hid (And.intro hG1 (And.intro hG2 hG3)); clear hG1 hG2 hG3 hb4) | (go_at_call 26; (with_reducible refine (H2.out _ ?_).mono ?_); (first | exact b_trans HB2.out hbl | exact b_trans HB2.out (b_drew hbl)); rintro e w5 ⟨L, LA, lc, rfl, hL1, hL2, hL3, hL4, hb5⟩; have HL := Lib.hid (And.intro hL1 (And.intro hL2 (And.intro hL3 (And.intro hL4 hb5)))); have hbl : Below W2.heap.size W2 w5 := (by first | exact hbl.trans (hb5.mono hbl.size) | exact (b_drew hbl).trans (hb5.mono hbl.size)); obtain ⟨c0, c1, n0, n1, z0, z1⟩ := HBox.out w5 hbl; have HBl := Lib.hid hbl; clear hL1 hL2 hL3 hL4 hb5) | (fail))
  all_goals
    obtain ⟨W9, hW9⟩ : ∃ V, (w5.setCell ⟨B1 + 1, 0, none⟩ (.slice GA G.length gc)).setCell ⟨B1 + 1, 1, none⟩ (.slice LA P.length lc) = V := ⟨_, rfl⟩
    have hx2 : w5.heap[B1 + 1]? = _ := (HBl.out.block _ (Array.getElem?_eq_some_iff.1 HK2.out).1).trans HK2.out
    have hl4 := HL.out.2.2.2.2
    have hL4 : Below w4.heap.size w4 w5 := by first | exact hl4 | exact b_undrew hl4
    have hat : FormAt F X P w5 (.agg #[.slice GA G.length gc, .slice LA P.length lc]) :=
      ⟨G, GA, gc, L, LA, lc, by rw [HL.out.1], HG.out.1, HL.out.1, HG.out.2.1.below hL4, fun k a b => ⟨(HG.out.2.2 k a b).1, (HG.out.2.2 k a b).2.1, (HG.out.2.2 k a b).2.2.1, (HG.out.2.2 k a b).2.2.2.below hL4⟩, HL.out.2.1, HL.out.2.2.1, HL.out.2.2.2.1⟩
    have hk9 : ∀ b, b ≠ B1 + 1 → W9.heap[b]? = w5.heap[b]? := fun b hb => by
      rw [← hW9, Below.heap_setCell _ ⟨B1 + 1, 1, none⟩ _ b hb, Below.heap_setCell _ ⟨B1 + 1, 0, none⟩ _ b hb]
    have hat9 := hat.two (w' := W9) (B := B1 + 1) (fun j => by simp [World.cell?, hx2]) (fun j s h => by
      match j with
      | 0 => simp [World.cell?, hx2] at h
      | 1 => simp [World.cell?, hx2] at h
      | j + 2 => simp [World.cell?, hx2] at h) hk9
    have hge : w.heap.size ≤ B1 + 1 := by have := HB1.out; omega
    have hb9 : Below w.heap.size w W9 := by
      rw [← hW9]
      exact ((b_trans HB2.out HBl.out).setCell (p := ⟨B1 + 1, 0, none⟩) hge _).setCell (p := ⟨B1 + 1, 1, none⟩) hge _
    have n2 : W9.heap[B1 + 1]? = some (.cells #[.slice GA G.length gc, .slice LA P.length lc] 25 (0, 0)) := by
      rw [← hW9]
      have e1 := PgC.blk_set hx2 0 (.slice GA G.length gc)
      exact PgC.blk_set e1 1 (.slice LA P.length lc)
    have n3 : ∀ o, W9.cell? ⟨B1 + 1, o, none⟩ = (#[.slice GA G.length gc, .slice LA P.length lc] : Array Value)[o]? := fun o => by simp [World.cell?, n2]
    have HAt := Lib.hid (And.intro hat9 hb9)
    clear hx2 hl4 hL4 hat hk9 hat9 hge hb9 n2
    rw [hW9]
    go_wp2_with fail
    refine bodyPost_ret (v := .agg #[.slice GA G.length gc, .slice LA P.length lc]) (by simp [results, Tryz.results7, go_sem, n3]) rfl ⟨_, rfl, HAt.out.1, HAt.out.2⟩
set_option maxRecDepth 100000 in
set_option maxHeartbeats 4000000 in
/-- Two forms of the same contents are the same. -/
theorem same_any (F : List GenL.Fd) (X : Nat → Ex) (P : List PE) (v1 v2 : Value) (w : World) (hl : F.length ≤ 1048576) (hp : P.length ≤ 1048576) (hps : ∀ e ∈ P, e.fs.length ≤ 1048576) (h1 : FormAt F X P w v1) (h2 : FormAt F X P w v2) :
    Calls Tryz.prog 10 #[v1, v2] w fun e w' => e = .returned (.bool true) ∧ Below w.heap.size w w' := by
  obtain ⟨G, GA, gc, L, LA, lc, rfl, a1, a2, a3, a4, a5, a6, a7⟩ := h1
  obtain ⟨G2, GA2, gc2, L2, LA2, lc2, rfl, b1, b2, b3, b4, b5, b6, b7⟩ := h2
  have hf : ∀ V, Below w.heap.size w V → Calls Tryz.prog 31 #[.slice GA G.length gc, .slice GA2 G2.length gc2] V fun e w' => e = .returned (.bool true) ∧ Below V.heap.size V w' := fun V hV => by
    have := FldS.eqFields_any G G2 X GA GA2 gc gc2 V (a1.trans b1.symm) (by unfold maxLen; omega) (a3.below hV) (b3.below hV) fun k h h2 => by
      obtain ⟨x1, x2, x3, x4⟩ := a4 k h (by omega)
      obtain ⟨y1, y2, y3, y4⟩ := b4 k h2 (by omega)
      exact ⟨x1.trans y1.symm, x2.trans y2.symm, x3.trans y3.symm, x4.below hV, y4.below hV⟩
    rw [show G2.length = G.length from b1.trans a1.symm]
    exact this
  have hg : ∀ V, Below w.heap.size w V → Calls Tryz.prog 32 #[.slice LA L.length lc, .slice LA2 L2.length lc2] V fun e w' => e = .returned (.bool true) ∧ Below V.heap.size V w' := fun V hV => by
    have := PgS.eqPages_any L L2 LA LA2 lc lc2 V (a2.trans b2.symm) (by unfold maxLen; omega) (a6.below hV) (b6.below hV) fun k h h2 => by
      obtain ⟨x1, x2, x3⟩ := a5 k h (by omega)
      obtain ⟨y1, y2, y3⟩ := b5 k h2 (by omega)
      have r1 := a7 _ (List.getElem_mem h)
      have r2 := b7 _ (List.getElem_mem h2)
      exact ⟨x1.trans y1.symm, x2.trans y2.symm, x3.trans y3.symm, srow_below r1.1 hV, srow_below r2.1 hV, by rw [x2]; exact hps _ (List.getElem_mem _), r1.2.below hV, r2.2.below hV⟩
    rw [show L2.length = L.length from b2.trans a2.symm]
    exact this
  obtain ⟨W2, hW2⟩ : ∃ V, (w.alloc (frBox GA G.length gc LA L.length lc)).alloc (frBox GA2 G2.length gc2 LA2 L2.length lc2) = V := ⟨_, rfl⟩
  obtain ⟨B1, hB1⟩ : ∃ B, w.heap.size = B := ⟨_, rfl⟩
  have hb1 := b_new w (frBox GA G.length gc LA L.length lc)
  have hb2 := b_more hb1 (frBox GA2 G2.length gc2 LA2 L2.length lc2)
  have hcell : ∀ V, Below W2.heap.size W2 V → V.cell? ⟨B1, 0, none⟩ = some (.slice GA G.length gc) ∧ V.cell? ⟨B1, 1, none⟩ = some (.slice LA L.length lc) ∧ V.cell? ⟨B1 + 1, 0, none⟩ = some (.slice GA2 G2.length gc2) ∧ V.cell? ⟨B1 + 1, 1, none⟩ = some (.slice LA2 L2.length lc2) := fun V hV => by
    rw [← hW2] at hV
    obtain ⟨p0, p1⟩ := fr_cells w GA G.length gc LA L.length lc V ((b_new _ _).trans (hV.mono (b_new _ _).size))
    obtain ⟨q0, q1⟩ := fr_cells (w.alloc (frBox GA G.length gc LA L.length lc)) GA2 G2.length gc2 LA2 L2.length lc2 V hV
    rw [World.size_alloc] at q0 q1
    rw [← hB1]
    exact ⟨p0, p1, q0, q1⟩
  rw [hW2] at hb2
  obtain ⟨c0, c1, d0, d1⟩ := hcell W2 (Below.refl _ _)
  have H1 := Lib.hid hf
  have H2 := Lib.hid hg
  have HW2 := Lib.hid hW2
  have HB1 := Lib.hid hB1
  have HB2 := Lib.hid hb2
  have HCell := Lib.hid hcell
  clear hf hg hW2 hB1 hb1 hb2 hcell a1 a2 a3 a4 a5 a6 a7 b1 b2 b3 b4 b5 b6 b7
  unfold frBox at HW2
  go_enter Tryz.func10, Tryz.ntmps10
  go_upto_region 1 with fail
  rw [HW2.out, HB1.out]
  go_wp2_with fail
  refine (H1.out _ HB2.out).mono ?_; rintro e w3 ⟨rfl, hb3⟩
  obtain ⟨c0, c1, d0, d1⟩ := HCell.out w3 hb3
  have HB3 := Lib.hid (b_trans HB2.out hb3)
  clear hb3
  go_wp2_with fail
  refine (H2.out _ HB3.out).mono ?_; rintro e w4 ⟨rfl, hb4⟩
  have HB4 := Lib.hid (b_trans HB3.out hb4)
  clear hb4
  go_wp2_with fail
  go_ret
  exact ⟨rfl, HB4.out⟩
/-- The reference's copy. -/
def CopyQ (F : List GenL.Fd) (X : Nat → Ex) (A : Option Addr) (n c : Nat) (w : World) : Prop :=
  ∃ G : List GenL.Fd, n = G.length ∧ G.length = F.length ∧ Flds w A G ∧ ∀ (k : Nat) (h : k < G.length) (h2 : k < F.length), G[k].nm = F[k].nm ∧ G[k].kind = F[k].kind ∧ G[k].ty = F[k].ty ∧ Is w (X k) G[k].d G[k].A G[k].n
theorem refCopy_any (F : List GenL.Fd) (X : Nat → Ex) (FA : Option Addr) (fc : Nat) (P : List PE) (PA : Option Addr) (pc : Nat) (w : World) (hm : P.length ≤ 1048576) (hp : Pgs w PA P) (ho : PgsOk w P) (hlp : ∀ e ∈ P, e.fs.length ≤ 1048576 ∧ e.x.nodes ≤ 1048576)
    (h1 : ∀ V, Below w.heap.size w V → Calls Tryz.prog 29 #[.slice FA F.length fc] V (FldY.CopyOut F X V)) :
    Calls Tryz.prog 9 #[.agg #[.slice FA F.length fc, .slice PA P.length pc]] w fun e w' => ∃ v, e = .returned v ∧ FormAt F X P w' v ∧ Below w.heap.size w w' := by
  refine (FmC.formCopy_any (CopyQ F X) (fun A n c a b hb h => ?_) (fun A n c a b B h2 hk h => ?_) FA F.length fc P PA pc w hm hp ho hlp fun V hV => (h1 V hV).mono fun r w' h => ?_).mono fun r w' h => ?_
  · obtain ⟨G, e, g1, g2, g3⟩ := h
    exact ⟨G, e, g1, g2.below hb, fun k a b => ⟨(g3 k a b).1, (g3 k a b).2.1, (g3 k a b).2.2.1, (g3 k a b).2.2.2.below hb⟩⟩
  · obtain ⟨G, e, g1, g2, g3⟩ := h
    exact ⟨G, e, g1, two_flds h2 hk g2, fun k a b => ⟨(g3 k a b).1, (g3 k a b).2.1, (g3 k a b).2.2.1, two_is h2 hk _ _ _ _ (g3 k a b).2.2.2⟩⟩
  · obtain ⟨G, A, c, rfl, g1, g2, g3, hb⟩ := h
    exact ⟨⟨A, G.length, c, rfl, G, rfl, g1, g2, g3⟩, hb⟩
  · obtain ⟨GA, gn, gc, L, LA, lc, rfl, l1, l2, l3, l4, hb, G, rfl, g1, g2, g3⟩ := h
    exact ⟨_, rfl, ⟨G, GA, gc, L, LA, lc, rfl, g1, l1, g2, g3, l2, l3, l4⟩, hb⟩
end Go.Proofs.YtdlfhldboagbeaaGreatDoor.ShC
