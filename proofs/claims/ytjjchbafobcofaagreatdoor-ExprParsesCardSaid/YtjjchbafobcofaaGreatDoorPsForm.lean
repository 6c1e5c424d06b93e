/- The parser's methods prefixed and formula. -/
import Derived.Test.YtjjchbafobcofaaGreatDoorPsAtom
import Derived.Deep.RegionWith
namespace Go.Proofs.YtjjchbafobcofaaGreatDoor.PsF
open Go.RowKit
open LexM ExM Kit ExL ExP PsM PsT NmC Ps PsR PsL PsA
set_option linter.unusedVariables false

section
variable {w0 : World} {P : Nat} {A : Option Addr} {c : Nat} {L : List Tk} {w : World} {k : Nat}
theorem opAt_bounds {q op : Nat} {s : List UInt8} (h : PsM.opAt q s = some op) (hs : s ≠ []) : 3 ≤ op ∧ op < 19 := by
  obtain ⟨h1, h3, _⟩ := opAt_some h hs
  exact ⟨h3, h1⟩
set_option maxRecDepth 100000 in
set_option maxHeartbeats 8000000 in
theorem pref_any (hE : Env w0 P A L) (hFu : Full L) (hSm : Small L) (F : Nat) (hF : ∀ f, f ≤ F → FormC w0 P A c L f) : ∀ (f : Nat), f ≤ F + 1 → ∀ (w : World) (k : Nat) (o : Out), run f (.form 5) (L.drop k) = o → o ≠ .tired → St w0 P A c L w k →
    Calls Tryz.prog 36 #[.pointer (some ⟨P, 0, none⟩)] w (PsL.Ends w0 P A c L w k o) := by
  intro f
  induction f with
  | zero => intro _ w k o hrun hne; exact absurd hrun.symm hne
  | succ f ih =>
    intro hf w k o hrun hne hS
    have hl := hS.lt
    obtain ⟨V, hV⟩ : ∃ V, w.alloc (.cells #[.int .i64 0, .int .i64 0, .int .i64 0, .string ⟨#[]⟩, .string ⟨#[]⟩, .slice none 0 0] 26) = V := ⟨_, rfl⟩
    have hSV := box_new hS
    have hzV := boxz_at w
    have hbV := b_new w (.cells #[.int .i64 0, .int .i64 0, .int .i64 0, .string ⟨#[]⟩, .string ⟨#[]⟩, .slice none 0 0] 26)
    rw [hV] at hSV hzV hbV
    cases h5 : opNext 5 (L.drop k) with
    | none =>
      have HO := Lib.hid (operator_no hE hSV hFu 5 (by omega) h5)
      have HA := Lib.hid (fun (W : World) (hW : St w0 P A c L W k) => atom_any hE hFu hSm F hF f (by omega) o hW h5 hrun hne)
      have HV := Lib.hid hV
      have HBV := Lib.hid hbV
      have HZ := Lib.hid hzV
      have HS := Lib.hid hS
      have HSV := Lib.hid hSV
      have HE := Lib.hid hE
      clear ih hF hrun hne hS hV hSV hzV hbV h5 hE
      go_enter Tryz.func36, Tryz.ntmps36
      go_wp2_with fail
      rw [HV.out]
      refine HO.out.mono ?_; rintro e w2 ⟨rfl, hb2⟩
      have hS2 := HSV.out.keep hb2
      have hg2 : w.grownBy w2 (some P) := grown_below (HBV.out.trans (hb2.mono HBV.out.size)) _
      have hz2 := boxz_keep HZ.out hb2
      have HX := Lib.hid (HA.out w2 hS2)
      have HG := Lib.hid hg2
      have HZ2 := Lib.hid hz2
      clear hb2 hS2 hg2 hz2
      go_wp2_with fail
      refine HX.out.mono ?_; intro e w3 he
      cases o with
      | tired => exact he.elim
      | bad r' =>
        obtain ⟨v, rfl, hw, hg⟩ := he
        have HW := Lib.hid (And.intro hw hg)
        clear hw hg
        go_wp2_with fail
        exact ⟨rfl, v, rfl, HW.out.1, grown_trans HG.out HW.out.2⟩
      | ok l r' =>
        match l, he with
        | [], he => exact he.elim
        | x :: y :: l, he => exact he.elim
        | [x], he =>
          obtain ⟨d, B, n, c2, k', rfl, hix, rfl, hk', hS3, hg3⟩ := he
          obtain ⟨hbz, hend⟩ := fin_box (cp := c2) HS.out HE.out HG.out HZ2.out hix hS3 hg3
          obtain ⟨z1, z2⟩ := cells_of hbz
          unfold S6 at hend
          have HEnd := Lib.hid hend
          clear hend hbz hix hS3 hg3
          go_wp2_with fail
          refine bodyPost_ret (v := .agg #[.int .i64 d.op, .int .i64 d.k, .int .i64 d.n, .string d.s, .string d.nm, .slice B n c2]) (by simp [results, Tryz.results36, go_sem, z1]) rfl ?_
          obtain ⟨e1, e2, e3⟩ := HEnd.out
          exact ⟨d, B, n, c2, k', rfl, e1, rfl, hk', e2, e3⟩
    | some op =>
      obtain ⟨t, r, hd⟩ : ∃ t r, L.drop k = t :: r := by
        cases hd : L.drop k with
        | nil => rw [hd] at h5; cases h5
        | cons t r => exact ⟨t, r, rfl⟩
      obtain ⟨hk, ht, hr⟩ := drop_cons hd
      have h5' : PsM.opAt 5 t.s = some op := by rw [hd] at h5; exact h5
      have hob := opAt_bounds h5' (hFu t (by rw [ht]; exact List.getElem_mem _))
      obtain ⟨o2, ho2⟩ : ∃ o2, run f (.form 5) (L.drop (k + 1)) = o2 := ⟨_, rfl⟩
      have hrun2 : wrap op o2 = o := by
        rw [hd] at hrun
        simp only [run, if_true, h5'] at hrun
        rw [hr, ho2] at hrun; exact hrun
      have hne2 : o2 ≠ .tired := fun e => hne (by rw [← hrun2, e]; rfl)
      have HO := Lib.hid (operator_yes hE hSV hFu 5 op h5)
      have HA := Lib.hid (fun (W : World) (hW : St w0 P A c L W (k + 1)) => ih (by omega) W (k + 1) o2 ho2 hne2 hW)
      have HV := Lib.hid hV
      have HBV := Lib.hid hbV
      have HZ := Lib.hid hzV
      have HS := Lib.hid hS
      have HE := Lib.hid hE
      have t3 : ((op : Int) == 0) = false := beq_eq_false_iff_ne.2 (by omega)
      subst hrun2
      clear ih hF hrun hne hS hV hSV hzV hbV h5 h5' hE ho2 hne2 hd ht hr
      go_enter Tryz.func36, Tryz.ntmps36
      go_wp2_with fail
      rw [HV.out]
      refine HO.out.mono ?_; rintro e w2 ⟨rfl, hk2, hS2, hg2⟩
      have hz2 := boxz_grown HZ.out hg2 (by omega)
      have hgw2 := grown_trans (grown_below HBV.out (some P)) hg2
      have hsz2 := hgw2.size
      have HX := Lib.hid (HA.out w2 hS2)
      have HG := Lib.hid hgw2
      have HZ2 := Lib.hid hz2
      clear hS2 hg2 hgw2 hz2
      go_wp2_with fail
      refine HX.out.mono ?_; intro e w3 he
      cases o2 with
      | tired => exact he.elim
      | bad r' =>
        obtain ⟨v, rfl, hw, hg⟩ := he
        have HW := Lib.hid (And.intro hw hg)
        clear hw hg
        go_wp2_with fail
        exact ⟨rfl, v, rfl, HW.out.1, grown_trans HG.out HW.out.2⟩
      | ok l r' =>
        match l, he with
        | [], he => exact he.elim
        | x :: y :: l, he => exact he.elim
        | [x], he =>
          obtain ⟨d, B, n, c2, k', rfl, hix, rfl, hk', hS3, hg3⟩ := he
          have hb4 := b_new w3 (.cells #[.int .i64 d.op, .int .i64 d.k, .int .i64 d.n, .string d.s, .string d.nm, .slice B n c2] 26)
          have hs3 := hg3.size
          have hx : IsP (fun b => w2.heap.size ≤ b) (w3.alloc (.cells #[.int .i64 d.op, .int .i64 d.k, .int .i64 d.n, .string d.s, .string d.nm, .slice B n c2] 26)) (opN op [x]) ⟨(op : Int), 0, 0, ⟨#[]⟩, ⟨#[]⟩⟩ (some ⟨w3.heap.size, 0, none⟩) 1 := by
            have := isP_row (P := fun b => w2.heap.size ≤ b) (w := w3.alloc (.cells #[.int .i64 d.op, .int .i64 d.k, .int .i64 d.n, .string d.s, .string d.nm, .slice B n c2] 26)) (d := ⟨(op : Int), 0, 0, ⟨#[]⟩, ⟨#[]⟩⟩) (es := [⟨x, d, B, n, c2⟩]) (g := w3.heap.size) (fun j hj => by rw [(cells_of (World.alloc_heap_new w3 (.cells #[.int .i64 d.op, .int .i64 d.k, .int .i64 d.n, .string d.s, .string d.nm, .slice B n c2] 26))).1]; simp [elC, El.cells]) hs3 (by unfold maxLen; simp) (Nat.zero_le _) (Nat.zero_le _) (fun e he => by simp at he; subst he; exact hix.below hb4)
            exact this
          obtain ⟨hbz, hend⟩ := fin_box (cp := 1) HS.out HE.out HG.out HZ2.out hx (hS3.keep hb4) (grown_trans hg3 (grown_below hb4 _))
          obtain ⟨z1, z2⟩ := cells_of hbz
          unfold S6 at hend
          have HEnd := Lib.hid hend
          clear hend hbz hix hx hS3 hg3 hb4
          go_wp2_with fail
          refine bodyPost_ret (v := .agg #[.int .i64 (op : Int), .int .i64 0, .int .i64 0, .string ⟨#[]⟩, .string ⟨#[]⟩, .slice (some ⟨w3.heap.size, 0, none⟩) 1 1]) (by simp [results, Tryz.results36, go_sem, z1]) rfl ?_
          obtain ⟨e1, e2, e3⟩ := HEnd.out
          exact ⟨_, _, 1, 1, k', rfl, e1, rfl, by omega, e2, e3⟩

/-- A formula in a box, and what is left of the reading. -/
structure FI (w0 : World) (P : Nat) (A : Option Addr) (c : Nat) (L : List Tk) (w : World) (k : Nat) (X : Nat) (x : Ex) (d : Nd) (B : Option Addr) (m cp : Nat) (wr : World) (k' : Nat) : Prop where
  box : wr.heap[X]? = some (.cells #[.int .i64 d.op, .int .i64 d.k, .int .i64 d.n, .string d.s, .string d.nm, .slice B m cp] 26 (0, 0))
  is : IsP (fun b => w.heap.size < b ∧ b ≠ X) wr x d B m
  st : St w0 P A c L wr k'
  res : Boxz wr w.heap.size
  grown : w.grownBy wr (some P)
  le : k ≤ k'
  lt : w.heap.size < X
theorem FI.keep {X : Nat} {x : Ex} {d : Nd} {B : Option Addr} {m cp : Nat} {wr w1 : World} {k' k2 : Nat} (h : FI w0 P A c L w k X x d B m cp wr k') (hl : P < w.heap.size) (hS : St w0 P A c L w1 k2) (hg : wr.grownBy w1 (some P)) (hk : k' ≤ k2) : FI w0 P A c L w k X x d B m cp w1 k2 :=
  ⟨(hg.block X (Array.getElem?_eq_some_iff.1 h.box).1 (fun e => by injection e with e; have := h.lt; omega)).trans h.box,
   IsP.keep (fun b hb hlt => hg.block b hlt (fun e => by injection e with e; have := hb.1; omega)) (fun _ hb _ => hb) _ _ _ _ h.is, hS, boxz_grown h.res hg (by omega), grown_trans h.grown hg, Nat.le_trans h.le hk, h.lt⟩
/-- Both operands in a new row, and the operator in the box. -/
theorem FI.step {X : Nat} {x y : Ex} {d dy : Nd} {B By : Option Addr} {m cp my cy : Nat} {wr w2 : World} {k1 k2 op : Nat} (h : FI w0 P A c L w k X x d B m cp wr k1) (hl : P < w.heap.size) (hP : w0.heap.size ≤ P) (hx : IsP (fun b => wr.heap.size ≤ b) w2 y dy By my) (hS : St w0 P A c L w2 k2) (hg : wr.grownBy w2 (some P)) (hk : k1 ≤ k2) :
    FI w0 P A c L w k X (opN op [x, y]) ⟨(op : Int), 0, 0, ⟨#[]⟩, ⟨#[]⟩⟩ (some ⟨w2.heap.size, 0, none⟩) 2 2 (S6 (w2.alloc (.cells #[.int .i64 d.op, .int .i64 d.k, .int .i64 d.n, .string d.s, .string d.nm, .slice B m cp, .int .i64 dy.op, .int .i64 dy.k, .int .i64 dy.n, .string dy.s, .string dy.nm, .slice By my cy] 26)) X (.int .i64 (op : Int)) (.int .i64 0) (.int .i64 0) (.string ⟨#[]⟩) (.string ⟨#[]⟩) (.slice (some ⟨w2.heap.size, 0, none⟩) 2 2)) k2 := by
  have h2 := h.keep hl hS hg hk
  have hXl := (Array.getElem?_eq_some_iff.1 h2.box).1
  have hXr := (Array.getElem?_eq_some_iff.1 h.box).1
  have hwr := h.grown.size
  have hs2 := hg.size
  obtain ⟨W, hW⟩ : ∃ W, w2.alloc (.cells #[.int .i64 d.op, .int .i64 d.k, .int .i64 d.n, .string d.s, .string d.nm, .slice B m cp, .int .i64 dy.op, .int .i64 dy.k, .int .i64 dy.n, .string dy.s, .string dy.nm, .slice By my cy] 26) = W := ⟨_, rfl⟩
  have hbn : Below w2.heap.size w2 W := by rw [← hW]; exact b_new _ _
  have hnew : W.heap[w2.heap.size]? = some (.cells #[.int .i64 d.op, .int .i64 d.k, .int .i64 d.n, .string d.s, .string d.nm, .slice B m cp, .int .i64 dy.op, .int .i64 dy.k, .int .i64 dy.n, .string dy.s, .string dy.nm, .slice By my cy] 26 (0, 0)) := by rw [← hW]; exact World.alloc_heap_new w2 _
  have hsW : W.heap.size = w2.heap.size + 1 := by rw [← hW]; simp
  rw [hW]
  have hh := fun b (hb : b ≠ X) => s6_heap W X b hb (.int .i64 (op : Int)) (.int .i64 0) (.int .i64 0) (.string ⟨#[]⟩) (.string ⟨#[]⟩) (.slice (some ⟨w2.heap.size, 0, none⟩) 2 2)
  have hgS := s6_grown W X (.int .i64 (op : Int)) (.int .i64 0) (.int .i64 0) (.string ⟨#[]⟩) (.string ⟨#[]⟩) (.slice (some ⟨w2.heap.size, 0, none⟩) 2 2)
  have hwl := h.lt
  have hxW : IsP (fun b => w.heap.size < b ∧ b ≠ X) W x d B m := IsP.below h2.is hbn
  have hyW : IsP (fun b => w.heap.size < b ∧ b ≠ X) W y dy By my := (IsP.below hx hbn).imp fun b hb _ => by have h1 : wr.heap.size ≤ b := hb; exact ⟨by omega, by omega⟩
  have hrow : IsP (fun b => w.heap.size < b ∧ b ≠ X) W (opN op [x, y]) ⟨(op : Int), 0, 0, ⟨#[]⟩, ⟨#[]⟩⟩ (some ⟨w2.heap.size, 0, none⟩) 2 := by
    have := isP_row (P := fun b => w.heap.size < b ∧ b ≠ X) (w := W) (d := ⟨(op : Int), 0, 0, ⟨#[]⟩, ⟨#[]⟩⟩) (es := [⟨x, d, B, m, cp⟩, ⟨y, dy, By, my, cy⟩]) (g := w2.heap.size) (fun j hj => by unfold World.cell?; rw [hnew]; simp [elC, El.cells]) ⟨by omega, by omega⟩ (by unfold maxLen; simp) (Nat.zero_le _) (Nat.zero_le _) (fun e he => by
      simp at he
      rcases he with rfl | rfl
      · exact hxW
      · exact hyW)
    exact this
  have hSW := hS.keep hbn
  have hlP := hSW.lt
  refine ⟨set6_box ((hbn.block X hXl).trans h2.box) _ _ _ _ _ _, IsP.keep (fun b hb _ => hh b hb.2) (fun _ hb _ => hb) _ _ _ _ hrow, ⟨(hh P (by omega)).trans hSW.prs, ?_, hS.le⟩, ?_, ?_, h2.le, h.lt⟩
  · exact hSW.below.grown hgS hSW.below.size (fun j e => by injection e with e; have := h.st.below.size; omega)
  · exact (hh _ (by omega)).trans (boxz_keep h2.res hbn)
  · refine ⟨hgS.os.trans (hbn.os.trans h2.grown.os), hgS.tape.trans (hbn.tape.trans h2.grown.tape), hgS.output.trans (hbn.output.trans h2.grown.output), by rw [s6_size]; omega, fun b hb hne => (hh b (by omega)).trans ((hbn.block b (by omega)).trans (h2.grown.block b hb hne))⟩
theorem s6_alloc (W : World) (o : Obj) (B : Nat) (h : B < W.heap.size) (u0 u1 u2 u3 u4 u5 : Value) : S6 (W.alloc o) B u0 u1 u2 u3 u4 u5 = (S6 W B u0 u1 u2 u3 u4 u5).alloc o := by
  unfold S6
  have a : ∀ (V : World) (i : Nat) (v : Value), B < V.heap.size → (V.alloc o).setCell ⟨B, i, none⟩ v = (V.setCell ⟨B, i, none⟩ v).alloc o := fun V i v hV => World.setCell_alloc_past o B i v hV
  rw [a _ _ _ h, a _ _ _ (by rw [sz_set]; exact h), a _ _ _ (by simp only [sz_set]; exact h), a _ _ _ (by simp only [sz_set]; exact h), a _ _ _ (by simp only [sz_set]; exact h), a _ _ _ (by simp only [sz_set]; exact h)]
/-- The box's formula, stored as the result. -/
theorem FI.done {X : Nat} {x : Ex} {d : Nd} {B : Option Addr} {m cp : Nat} {wr : World} {k' : Nat} (h : FI w0 P A c L w k X x d B m cp wr k') (hS : St w0 P A c L w k) (hP : w0.heap.size ≤ P) :
    IsP (fun b => w.heap.size ≤ b) (S6 wr w.heap.size (.int .i64 d.op) (.int .i64 d.k) (.int .i64 d.n) (.string d.s) (.string d.nm) (.slice B m cp)) x d B m ∧ St w0 P A c L (S6 wr w.heap.size (.int .i64 d.op) (.int .i64 d.k) (.int .i64 d.n) (.string d.s) (.string d.nm) (.slice B m cp)) k' ∧ w.grownBy (S6 wr w.heap.size (.int .i64 d.op) (.int .i64 d.k) (.int .i64 d.n) (.string d.s) (.string d.nm) (.slice B m cp)) (some P) :=
  put_res hS hP (h.is.imp fun b hb _ => hb.1) h.st h.res h.grown
end
end Go.Proofs.YtjjchbafobcofaaGreatDoor.PsF
