/- Package field: whether fields may be. -/
import Derived.Test.YthgcmficmodhiaaGreatDoorFldRight
import Derived.Test.YthgcmficmodhiaaGreatDoorTyOf
import Derived.Test.YthgcmficmodhiaaGreatDoorTyRefTop
import Derived.Deep.RegionLaw
namespace Go.Proofs.YthgcmficmodhiaaGreatDoor.FldC
open Go.RowKit
open ValM LexM NumM ExM Kit ExL ExN ExC RawV Within RawL GenL FldP FldR TyM Ty TyO
set_option linter.unusedVariables false

/-- The first that is not zero. -/
def scan (P : Nat → Int) : Nat → Int
  | 0 => 0
  | n + 1 => if scan P n = 0 then P n else scan P n
theorem scan_zero {P : Nat → Int} : ∀ (n : Nat), (∀ j, j < n → P j = 0) → scan P n = 0
  | 0, _ => rfl
  | n + 1, h => by
    unfold scan
    rw [if_pos (scan_zero n fun j hj => h j (by omega))]
    exact h n (by omega)
theorem scan_stop {P : Nat → Int} : ∀ (n k : Nat), k < n → (∀ j, j < k → P j = 0) → P k ≠ 0 → scan P n = P k
  | n + 1, k, hk, h, h0 => by
    unfold scan
    by_cases e : k = n
    · subst e
      rw [if_pos (scan_zero k h)]
    · have := scan_stop n k (by omega) h h0
      rw [this, if_neg h0]
/-- P9.3, of one field: by itself and by those ahead of it; by its type. -/
def ownE (fs : List GenL.Fd) (X : Nat → Ex) (k : Nat) : Int :=
  if h : k < fs.length then (if rightE fs[k] (X k) = 0 then (if atF fs fs[k].nm < k then 6 else 0) else rightE fs[k] (X k)) else 0
def srcE (fs : List GenL.Fd) (f : GenL.Fd) (x : Ex) : Int := if f.kind = 2 then fitsT (fts fs) x f.ty else if f.kind = 3 then (ofT (fts fs) x).2 else 0
def typE (fs : List GenL.Fd) (X : Nat → Ex) (k : Nat) : Int := if h : k < fs.length then srcE fs fs[k] (X k) else 0
/-- P9.3. -/
def checkF (fs : List GenL.Fd) (X : Nat → Ex) : Int :=
  if 14 < fs.length then 1 else if scan (ownE fs X) fs.length = 0 then scan (typE fs X) fs.length else scan (ownE fs X) fs.length
def Forms (w : World) (fs : List GenL.Fd) (X : Nat → Ex) : Prop := ∀ (k : Nat) (h : k < fs.length), fs[k].nm.size ≤ maxLen ∧ Is w (X k) fs[k].d fs[k].A fs[k].n
theorem Forms.below {w w' : World} {fs : List GenL.Fd} {X : Nat → Ex} (h : Forms w fs X) (hb : Below w.heap.size w w') : Forms w' fs X := fun k hk => ⟨(h k hk).1, (h k hk).2.below hb⟩
set_option maxHeartbeats 4000000 in
theorem checkType_any (f : GenL.Fd) (x : Ex) (fs : List GenL.Fd) (FA : Option Addr) (fc : Nat) (w : World) (hm : fs.length ≤ 1000000000000) (his : Is w x f.d f.A f.n) (hf : Flds w FA fs) (hT : Tab w) :
    Calls Tryz.prog 31 #[.agg #[.string f.nm, .int .i64 f.kind, .int .i64 f.ty, .int .i64 f.d.op, .int .i64 f.d.k, .int .i64 f.d.n, .string f.d.s, .string f.d.nm, .slice f.A f.n f.c], .slice FA fs.length fc] w fun e w' => e = .returned (.int .i64 (srcE fs f x)) ∧ Below w.heap.size w w' := by
  obtain ⟨R, hR⟩ : ∃ R, srcE fs f x = R := ⟨_, rfl⟩
  rw [hR]
  obtain ⟨W, hW⟩ : ∃ W, w.alloc (.cells #[.string f.nm, .int .i64 f.kind, .int .i64 f.ty, .int .i64 f.d.op, .int .i64 f.d.k, .int .i64 f.d.n, .string f.d.s, .string f.d.nm, .slice f.A f.n f.c] 48) = W := ⟨_, rfl⟩
  have hb0 := b_new w (.cells #[.string f.nm, .int .i64 f.kind, .int .i64 f.ty, .int .i64 f.d.op, .int .i64 f.d.k, .int .i64 f.d.n, .string f.d.s, .string f.d.nm, .slice f.A f.n f.c] 48)
  have hcell := head_cells w f
  unfold rightHead at hcell
  rw [hW] at hb0 hcell
  have hc1 : ∀ V : World, Below W.heap.size W V → Calls Tryz.prog 50 #[.agg #[.int .i64 f.d.op, .int .i64 f.d.k, .int .i64 f.d.n, .string f.d.s, .string f.d.nm, .slice f.A f.n f.c], .slice FA fs.length fc, .int .i64 f.ty] V fun e w' => e = .returned (.int .i64 (fitsT (fts fs) x f.ty)) ∧ Below V.heap.size V w' := fun V hV =>
    fits_any x fs FA fc f.ty f.d f.A f.n f.c V hm (his.below (b_trans hb0 hV)) (hf.below (b_trans hb0 hV)) (hT.below (b_trans hb0 hV))
  have hc2 : ∀ V : World, Below W.heap.size W V → Calls Tryz.prog 51 #[.agg #[.int .i64 f.d.op, .int .i64 f.d.k, .int .i64 f.d.n, .string f.d.s, .string f.d.nm, .slice f.A f.n f.c], .slice FA fs.length fc] V fun e w' => e = .returned (.tuple #[.int .i64 (ofT (fts fs) x).1, .int .i64 (ofT (fts fs) x).2]) ∧ Below V.heap.size V w' := fun V hV =>
    of_any x fs FA fc f.d f.A f.n f.c V hm (his.below (b_trans hb0 hV)) (hf.below (b_trans hb0 hV)) (hT.below (b_trans hb0 hV))
  unfold srcE at hR
  generalize fitsT (fts fs) x f.ty = r1 at hc1 hR
  generalize (ofT (fts fs) x).1 = r2 at hc2
  generalize (ofT (fts fs) x).2 = r3 at hc2 hR
  have HB0 := Lib.hid hb0
  have HW := Lib.hid hW
  have H1 := Lib.hid (hc1 W (Below.refl _ _))
  have H2 := Lib.hid (hc2 W (Below.refl _ _))
  obtain ⟨q0, q1, q2, q3, q4, q5, q6, q7, q8⟩ := hcell W (Below.refl _ _)
  clear hb0 hcell hW hc1 hc2 his hf hT
  by_cases h2 : f.kind = 2
  · rw [if_pos h2] at hR
    subst hR
    have t2 : (f.kind == 2) = true := beq_iff_eq.2 h2
    clear h2
    go_enter Tryz.func31, Tryz.ntmps31
    go_wp2_with fail
    rw [HW.out]
    go_wp2_with fail
    refine H1.out.mono ?_; rintro e w1 ⟨rfl, hb1⟩
    have HB1 := Lib.hid (b_trans HB0.out hb1)
    clear hb1
    go_wp2_with fail
    go_ret
    exact ⟨rfl, HB1.out⟩
  · have t2 : (f.kind == 2) = false := beq_eq_false_iff_ne.2 h2
    rw [if_neg h2] at hR
    clear h2
    by_cases h3 : f.kind = 3
    · rw [if_pos h3] at hR
      subst hR
      have t3 : (f.kind == 3) = true := beq_iff_eq.2 h3
      clear h3
      go_enter Tryz.func31, Tryz.ntmps31
      go_wp2_with fail
      rw [HW.out]
      go_wp2_with fail
      refine H2.out.mono ?_; rintro e w1 ⟨rfl, hb1⟩
      have HB1 := Lib.hid (b_trans HB0.out hb1)
      clear hb1
      go_wp2_with fail
      go_ret
      exact ⟨rfl, HB1.out⟩
    · have t3 : (f.kind == 3) = false := beq_eq_false_iff_ne.2 h3
      rw [if_neg h3] at hR
      subst hR
      clear h3
      go_enter Tryz.func31, Tryz.ntmps31
      go_wp2_with fail
      rw [HW.out]
      go_wp2_with fail
      go_ret
      exact ⟨rfl, HB0.out⟩
set_option maxHeartbeats 8000000 in
set_option maxRecDepth 100000 in
theorem check_any (fs : List GenL.Fd) (X : Nat → Ex) (FA : Option Addr) (fc : Nat) (w : World) (hm : fs.length ≤ 1000000000000) (hf : Flds w FA fs) (hX : Forms w fs X) (hT : Tab w) (hcap : fs.length ≤ fc ∧ fc ≤ maxLen) :
    Calls Tryz.prog 13 #[.slice FA fs.length fc] w fun e w' => e = .returned (.int .i64 (checkF fs X)) ∧ Below w.heap.size w w' := by
  obtain ⟨R, hR⟩ : ∃ R, checkF fs X = R := ⟨_, rfl⟩
  rw [hR]
  unfold checkF at hR
  have HF := Lib.hid hf
  have HX := Lib.hid hX
  have HT := Lib.hid hT
  clear hf hX hT
  by_cases hl : 14 < fs.length
  · rw [if_pos hl] at hR
    subst hR
    have tl : (14 : Int) < (fs.length : Int) := by omega
    go_enter Tryz.func13, Tryz.ntmps13
    go_wp2_with fail
    go_ret
    exact ⟨rfl, Below.refl _ _⟩
  · rw [if_neg hl] at hR
    have tl : ¬ (14 : Int) < (fs.length : Int) := by omega
    have hown : ∀ k, k < fs.length → (∀ j, j < k → ownE fs X j = 0) → ownE fs X k ≠ 0 → R = ownE fs X k := fun k hk h h0 => by
      have e := scan_stop fs.length k hk h h0
      rw [e, if_neg h0] at hR; exact hR.symm
    have htyp : (∀ j, j < fs.length → ownE fs X j = 0) → ∀ k, k < fs.length → (∀ j, j < k → typE fs X j = 0) → typE fs X k ≠ 0 → R = typE fs X k := fun h1 k hk h h0 => by
      rw [scan_zero _ h1, if_pos rfl, scan_stop fs.length k hk h h0] at hR; exact hR.symm
    have hall : (∀ j, j < fs.length → ownE fs X j = 0) → (∀ j, j < fs.length → typE fs X j = 0) → R = 0 := fun h1 h2 => by
      rw [scan_zero _ h1, if_pos rfl, scan_zero _ h2] at hR; exact hR.symm
    have HOwn := Lib.hid hown
    have HTyp := Lib.hid htyp
    have HAll := Lib.hid hall
    clear hown htyp hall hR
    go_enter Tryz.func13, Tryz.ntmps13
    go_wp2_with fail
    go_loopw [3, 4, 5, 6, 7, 16] (fun _ _ _ _ _ ii wr => ∃ k : Nat, ii = .int .i64 k ∧ k ≤ fs.length ∧ (∀ j, j < k → ownE fs X j = 0) ∧ Below w.heap.size w wr) (fun _ _ _ _ _ ii _ => fs.length - (intOf ii).toNat)
    case atStart => exact ⟨0, rfl, by omega, fun j hj => absurd hj (by omega), Below.refl _ _⟩
    case round =>
      obtain ⟨k, rfl, hk, hz, hb⟩ := hrel
      have HZ := Lib.hid hz
      by_cases hlt : k < fs.length
      · obtain ⟨ad, rfl, hat⟩ := HF.out k hlt
        obtain ⟨q0, q1, q2, q3, q4, q5, q6, q7, q8⟩ := hat.of_block (hb.block _ hat.lt)
        obtain ⟨hs, his⟩ := HX.out k hlt
        have hoe : ownE fs X k = (if rightE fs[k] (X k) = 0 then (if atF fs fs[k].nm < k then 6 else 0) else rightE fs[k] (X k)) := by unfold ownE; rw [dif_pos hlt]
        have hown := HOwn.out k hlt hz
        have hnext : ownE fs X k = 0 → ∀ j, j < k + 1 → ownE fs X j = 0 := fun e j hj => by
          by_cases h : j = k
          · subst h; exact e
          · exact hz j (by omega)
        obtain ⟨f, hfk⟩ : ∃ f, fs[k] = f := ⟨_, rfl⟩
        rw [hfk] at q0 q1 q2 q3 q4 q5 q6 q7 q8 hs his hoe
        obtain ⟨W5, hW5⟩ : ∃ V, wr.alloc (.cells #[.string f.nm, .int .i64 f.kind, .int .i64 f.ty, .int .i64 f.d.op, .int .i64 f.d.k, .int .i64 f.d.n, .string f.d.s, .string f.d.nm, .slice f.A f.n f.c] 48) = V := ⟨_, rfl⟩
        obtain ⟨B9, hB9⟩ : ∃ B, wr.heap.size = B := ⟨_, rfl⟩
        have hb5 := b_more hb (.cells #[.string f.nm, .int .i64 f.kind, .int .i64 f.ty, .int .i64 f.d.op, .int .i64 f.d.k, .int .i64 f.d.n, .string f.d.s, .string f.d.nm, .slice f.A f.n f.c] 48)
        have hcell := head_cells wr f
        unfold rightHead at hcell
        rw [hW5, hB9] at hcell
        rw [hW5] at hb5
        have hri := right_any f (X k) W5 hs (his.below hb5) (HT.out.below hb5)
        have hat9 := atF_take (fs := fs) (s := f.nm) (Nat.le_of_lt hlt)
        have hfi : ∀ V : World, Below w.heap.size w V → Calls Tryz.prog 27 #[.slice (some ad) k fc, .string f.nm] V fun e w' => e = .returned (.tuple #[.int .i64 (if atF (fs.take k) f.nm < k then (atF (fs.take k) f.nm : Int) else 0), .int .i64 (if atF fs f.nm < k then 0 else 5)]) ∧ V = w' := fun V hV => by
          have := find_any f.nm (fs.take k) (some ad) fc V ((FldP.Flds.take HF.out k).below hV) (by rw [List.length_take]; omega)
          have hlk : (fs.take k).length = k := by rw [List.length_take]; omega
          rw [hlk] at this
          simp only [hat9] at this ⊢
          exact this
        generalize (if atF (fs.take k) f.nm < k then (atF (fs.take k) f.nm : Int) else 0) = zz at hfi
        generalize rightE f (X k) = re at hri hoe
        obtain ⟨dup, hdup⟩ : ∃ b : Prop, (atF fs f.nm < k) = b := ⟨_, rfl⟩
        have HRi := Lib.hid hri
        have HFi := Lib.hid hfi
        have HCell := Lib.hid hcell
        have HW5 := Lib.hid hW5
        have HB9 := Lib.hid hB9
        have HB5 := Lib.hid hb5
        have HOw := Lib.hid hown
        have HNx := Lib.hid hnext
        have HOe := Lib.hid hoe
        have hk9 : k ≤ 14 := by omega
        have hkf : (k : Int) ≤ (fc : Int) := by omega
        have hk0 : (0 : Int) ≤ (k : Int) := by omega
        obtain ⟨k0, k1, k2, k3, k4, k5, k6, k7, k8⟩ := hcell W5 (Below.refl _ _)
        clear hri hfi hcell hW5 hB9 hb5 hown hnext hoe hz hb hat hs his hfk hat9 hdup
        go_wp2_with fail
        rw [HW5.out, HB9.out]
        go_wp2_with fail
        refine HRi.out.mono ?_; rintro e w6 ⟨rfl, hb6⟩
        obtain ⟨k0, k1, k2, k3, k4, k5, k6, k7, k8⟩ := HCell.out w6 hb6
        have HB6 := Lib.hid (b_trans HB5.out hb6)
        clear hb6
        by_cases h0 : re = 0
        · subst h0
          have hfi6 : ∀ m, Calls Tryz.prog 27 #[.slice (some ad) k fc, .string f.nm] (w6.drewN m) fun e w' => e = .returned (.tuple #[.int .i64 zz, .int .i64 (if atF fs f.nm < k then 0 else 5)]) ∧ w6.drewN m = w' := fun m => HFi.out _ (b_drewN HB6.out m)
          by_cases hd : atF fs f.nm < k
          · have hoe := HOe.out
            rw [if_pos rfl, if_pos hd] at hoe
            obtain rfl := (HOw.out (by rw [hoe]; decide)).trans hoe
            simp only [if_pos hd] at hfi6
            have HF6 := Lib.hid hfi6
            clear hfi6 hoe hd
            go_wp2_with fail
            first | (go_quiet ((go_at_call 27; exact (HF6.out _).mono fun _ _ h => ⟨h.1, _, h.2.symm⟩))) | (fail)
            go_wp2_with fail
            go_ret
            exact ⟨rfl, b_drewN HB6.out _⟩
          · have hoe := HOe.out
            rw [if_pos rfl, if_neg hd] at hoe
            have hN := HNx.out hoe
            have HN := Lib.hid hN
            simp only [if_neg hd] at hfi6
            have HF6 := Lib.hid hfi6
            clear hfi6 hoe hd hN
            go_wp2_with fail
            first | (go_quiet ((go_at_call 27; exact (HF6.out _).mono fun _ _ h => ⟨h.1, _, h.2.symm⟩))) | (fail)
            go_wp2_with fail
            go_roundw
            case rel => exact ⟨k + 1, by go_num, by omega, HN.out, b_drewN HB6.out _⟩
            case measure => simp [intOf]; omega
        · have hoe := HOe.out
          rw [if_neg h0] at hoe
          obtain rfl := (HOw.out (by rw [hoe]; exact h0)).trans hoe
          have t1 : (R != 0) = true := by simpa using h0
          clear hoe h0
          go_wp2_with fail
          go_ret
          exact ⟨rfl, HB6.out⟩
      · have hz1 : ∀ j, j < fs.length → ownE fs X j = 0 := fun j hj => hz j (by omega)
        have HZ1 := Lib.hid hz1
        obtain ⟨Wp, rfl⟩ : ∃ V, V = wr := ⟨_, rfl⟩
        have HBp := Lib.hid hb
        clear hz hz1 hb
        go_wp2_with fail
        go_loopw [9, 10, 40] (fun _ _ ii wr => ∃ k : Nat, ii = .int .i64 k ∧ k ≤ fs.length ∧ (∀ j, j < k → typE fs X j = 0) ∧ Below w.heap.size w wr) (fun _ _ ii _ => fs.length - (intOf ii).toNat)
        case atStart => exact ⟨0, rfl, by omega, fun j hj => absurd hj (by omega), HBp.out⟩
        case round =>
          obtain ⟨k, rfl, hk, hz, hb⟩ := hrel
          by_cases hlt : k < fs.length
          · obtain ⟨ad, rfl, hat⟩ := HF.out k hlt
            obtain ⟨q0, q1, q2, q3, q4, q5, q6, q7, q8⟩ := hat.of_block (hb.block _ hat.lt)
            obtain ⟨hs, his⟩ := HX.out k hlt
            have hoe : typE fs X k = srcE fs fs[k] (X k) := by unfold typE; rw [dif_pos hlt]
            have htyp := HTyp.out HZ1.out k hlt hz
            have hnext : typE fs X k = 0 → ∀ j, j < k + 1 → typE fs X j = 0 := fun e j hj => by
              by_cases h : j = k
              · subst h; exact e
              · exact hz j (by omega)
            obtain ⟨f, hfk⟩ : ∃ f, fs[k] = f := ⟨_, rfl⟩
            rw [hfk] at q0 q1 q2 q3 q4 q5 q6 q7 q8 hs his hoe
            obtain ⟨W5, hW5⟩ : ∃ V, wr.alloc (.cells #[.string f.nm, .int .i64 f.kind, .int .i64 f.ty, .int .i64 f.d.op, .int .i64 f.d.k, .int .i64 f.d.n, .string f.d.s, .string f.d.nm, .slice f.A f.n f.c] 48) = V := ⟨_, rfl⟩
            obtain ⟨B9, hB9⟩ : ∃ B, wr.heap.size = B := ⟨_, rfl⟩
            have hb5 := b_more hb (.cells #[.string f.nm, .int .i64 f.kind, .int .i64 f.ty, .int .i64 f.d.op, .int .i64 f.d.k, .int .i64 f.d.n, .string f.d.s, .string f.d.nm, .slice f.A f.n f.c] 48)
            have hcell := head_cells wr f
            unfold rightHead at hcell
            rw [hW5, hB9] at hcell
            rw [hW5] at hb5
            have hct := checkType_any f (X k) fs (some ad) fc W5 hm (his.below hb5) (HF.out.below hb5) (HT.out.below hb5)
            rw [← hoe] at hct
            generalize typE fs X k = te at hct htyp hnext
            have HCt := Lib.hid hct
            have HW5 := Lib.hid hW5
            have HB9 := Lib.hid hB9
            have HB5 := Lib.hid hb5
            have HTy := Lib.hid htyp
            have HNx := Lib.hid hnext
            have hk9 : k ≤ 14 := by omega
            obtain ⟨k0, k1, k2, k3, k4, k5, k6, k7, k8⟩ := hcell W5 (Below.refl _ _)
            clear hct hcell hW5 hB9 hb5 htyp hnext hoe hz hb hat hs his hfk
            go_wp2_with fail
            rw [HW5.out, HB9.out]
            go_wp2_with fail
            refine HCt.out.mono ?_; rintro e w6 ⟨rfl, hb6⟩
            have HB6 := Lib.hid (b_trans HB5.out hb6)
            clear hb6
            by_cases h0 : te = 0
            · subst h0
              have HN := Lib.hid (HNx.out rfl)
              go_wp2_with fail
              go_roundw
              case rel => exact ⟨k + 1, by go_num, by omega, HN.out, HB6.out⟩
              case measure => simp [intOf]; omega
            · obtain rfl := HTy.out h0
              have t1 : (R != 0) = true := by simpa using h0
              clear h0
              go_wp2_with fail
              go_ret
              exact ⟨rfl, HB6.out⟩
          · obtain rfl := HAll.out HZ1.out fun j hj => hz j (by omega)
            have HB6 := Lib.hid hb
            clear hz hb
            go_wp2_with fail
            go_ret
            exact ⟨rfl, HB6.out⟩
set_option maxHeartbeats 8000000 in
set_option maxRecDepth 100000 in
theorem refCheck_any (fs : List GenL.Fd) (X : Nat → Ex) (FA : Option Addr) (fc : Nat) (w : World) (hm : fs.length ≤ 1000000000000) (hf : Flds w FA fs) (hX : Forms w fs X) (hN : ∀ k, k < fs.length → (X k).nodes ≤ 1048576) :
    Calls Tryz.prog 18 #[.slice FA fs.length fc] w fun e w' => e = .returned (.int .i64 (checkF fs X)) ∧ Below w.heap.size w w' := by
  obtain ⟨R, hR⟩ : ∃ R, checkF fs X = R := ⟨_, rfl⟩
  rw [hR]
  unfold checkF at hR
  have HF := Lib.hid hf
  have HX := Lib.hid hX
  have HNd := Lib.hid hN
  clear hf hX hN
  by_cases hl : 14 < fs.length
  · rw [if_pos hl] at hR
    subst hR
    have tl : (14 : Int) < (fs.length : Int) := by omega
    go_enter Tryz.func18, Tryz.ntmps18
    go_wp2_with fail
    go_ret
    exact ⟨rfl, Below.refl _ _⟩
  · rw [if_neg hl] at hR
    have tl : ¬ (14 : Int) < (fs.length : Int) := by omega
    have hown : ∀ k, k < fs.length → (∀ j, j < k → ownE fs X j = 0) → ownE fs X k ≠ 0 → R = ownE fs X k := fun k hk h h0 => by
      have e := scan_stop fs.length k hk h h0
      rw [e, if_neg h0] at hR; exact hR.symm
    have htyp : (∀ j, j < fs.length → ownE fs X j = 0) → ∀ k, k < fs.length → (∀ j, j < k → typE fs X j = 0) → typE fs X k ≠ 0 → R = typE fs X k := fun h1 k hk h h0 => by
      rw [scan_zero _ h1, if_pos rfl, scan_stop fs.length k hk h h0] at hR; exact hR.symm
    have hall : (∀ j, j < fs.length → ownE fs X j = 0) → (∀ j, j < fs.length → typE fs X j = 0) → R = 0 := fun h1 h2 => by
      rw [scan_zero _ h1, if_pos rfl, scan_zero _ h2] at hR; exact hR.symm
    have HOwn := Lib.hid hown
    have HTyp := Lib.hid htyp
    have HAll := Lib.hid hall
    clear hown htyp hall hR
    go_enter Tryz.func18, Tryz.ntmps18
    go_wp2_with fail
    go_loopw [3, 4, 5, 15] (fun _ _ _ ii wr => ∃ k : Nat, ii = .int .i64 k ∧ k ≤ fs.length ∧ (∀ j, j < k → ownE fs X j = 0) ∧ Below w.heap.size w wr) (fun _ _ _ ii _ => fs.length - (intOf ii).toNat)
    case atStart => exact ⟨0, rfl, by omega, fun j hj => absurd hj (by omega), Below.refl _ _⟩
    case round =>
      obtain ⟨k, rfl, hk, hz, hb⟩ := hrel
      have HZ := Lib.hid hz
      by_cases hlt : k < fs.length
      · obtain ⟨ad, rfl, hat⟩ := HF.out k hlt
        obtain ⟨q0, q1, q2, q3, q4, q5, q6, q7, q8⟩ := hat.of_block (hb.block _ hat.lt)
        obtain ⟨hs, his⟩ := HX.out k hlt
        have hoe : ownE fs X k = (if rightE fs[k] (X k) = 0 then (if atF fs fs[k].nm < k then 6 else 0) else rightE fs[k] (X k)) := by unfold ownE; rw [dif_pos hlt]
        have hown := HOwn.out k hlt hz
        have hnext : ownE fs X k = 0 → ∀ j, j < k + 1 → ownE fs X j = 0 := fun e j hj => by
          by_cases h : j = k
          · subst h; exact e
          · exact hz j (by omega)
        obtain ⟨f, hfk⟩ : ∃ f, fs[k] = f := ⟨_, rfl⟩
        rw [hfk] at q0 q1 q2 q3 q4 q5 q6 q7 q8 hs his hoe
        obtain ⟨W5, hW5⟩ : ∃ V, wr.alloc (.cells #[.string f.nm, .int .i64 f.kind, .int .i64 f.ty, .int .i64 f.d.op, .int .i64 f.d.k, .int .i64 f.d.n, .string f.d.s, .string f.d.nm, .slice f.A f.n f.c] 48) = V := ⟨_, rfl⟩
        obtain ⟨B9, hB9⟩ : ∃ B, wr.heap.size = B := ⟨_, rfl⟩
        have hb5 := b_more hb (.cells #[.string f.nm, .int .i64 f.kind, .int .i64 f.ty, .int .i64 f.d.op, .int .i64 f.d.k, .int .i64 f.d.n, .string f.d.s, .string f.d.nm, .slice f.A f.n f.c] 48)
        have hcell := head_cells wr f
        unfold rightHead at hcell
        rw [hW5, hB9] at hcell
        rw [hW5] at hb5
        have hri := refFault_any f (X k) W5 hs (by have := HNd.out k hlt; omega) (his.below hb5)
        have hfi : ∀ V : World, Below w.heap.size w V → Calls Tryz.prog 21 #[.slice (some ad) fs.length fc, .string f.nm] V fun e w' => e = .returned (.int .i64 (atF fs f.nm : Int)) ∧ Below V.heap.size V w' := fun V hV => refAt_any f.nm fs (some ad) fc V (HF.out.below hV) (by omega)
        generalize rightE f (X k) = re at hri hoe
        obtain ⟨pl, hpl⟩ : ∃ p, atF fs f.nm = p := ⟨_, rfl⟩
        rw [hpl] at hoe
        simp only [hpl] at hfi
        have HRi := Lib.hid hri
        have HFi := Lib.hid hfi
        have HCell := Lib.hid hcell
        have HW5 := Lib.hid hW5
        have HB9 := Lib.hid hB9
        have HB5 := Lib.hid hb5
        have HOw := Lib.hid hown
        have HNx := Lib.hid hnext
        have HOe := Lib.hid hoe
        have hk9 : k ≤ 14 := by omega
        have hk0 : (0 : Int) ≤ (k : Int) := by omega
        obtain ⟨k0, k1, k2, k3, k4, k5, k6, k7, k8⟩ := hcell W5 (Below.refl _ _)
        clear hri hfi hcell hW5 hB9 hb5 hown hnext hoe hz hb hat hs his hfk hpl
        go_wp2_with fail
        rw [HW5.out, HB9.out]
        go_wp2_with fail
        refine HRi.out.mono ?_; rintro e w6 ⟨rfl, hb6⟩
        obtain ⟨k0, k1, k2, k3, k4, k5, k6, k7, k8⟩ := HCell.out w6 hb6
        have HB6 := Lib.hid (b_trans HB5.out hb6)
        clear hb6
        by_cases h0 : re = 0
        · subst h0
          by_cases hd : pl < k
          · have hoe := HOe.out
            rw [if_pos rfl, if_pos hd] at hoe
            obtain rfl := (HOw.out (by rw [hoe]; decide)).trans hoe
            have td : (pl : Int) < (k : Int) := by omega
            clear hoe hd
            go_wp2_with fail
            refine (HFi.out _ HB6.out).mono ?_; rintro e w7 ⟨rfl, hb7⟩
            have HB7 := Lib.hid (b_trans HB6.out hb7)
            clear hb7
            go_wp2_with fail
            go_ret
            exact ⟨rfl, HB7.out⟩
          · have hoe := HOe.out
            rw [if_pos rfl, if_neg hd] at hoe
            have hN := HNx.out hoe
            have HN := Lib.hid hN
            have td : ¬ (pl : Int) < (k : Int) := by omega
            clear hoe hd hN
            go_wp2_with fail
            refine (HFi.out _ HB6.out).mono ?_; rintro e w7 ⟨rfl, hb7⟩
            have HB7 := Lib.hid (b_trans HB6.out hb7)
            clear hb7
            go_wp2_with fail
            go_roundw
            case rel => exact ⟨k + 1, by go_num, by omega, HN.out, HB7.out⟩
            case measure => simp [intOf]; omega
        · have hoe := HOe.out
          rw [if_neg h0] at hoe
          obtain rfl := (HOw.out (by rw [hoe]; exact h0)).trans hoe
          have t1 : (R != 0) = true := by simpa using h0
          clear hoe h0
          go_wp2_with fail
          go_ret
          exact ⟨rfl, HB6.out⟩
      · have hz1 : ∀ j, j < fs.length → ownE fs X j = 0 := fun j hj => hz j (by omega)
        have HZ1 := Lib.hid hz1
        obtain ⟨Wp, rfl⟩ : ∃ V, V = wr := ⟨_, rfl⟩
        have HBp := Lib.hid hb
        clear hz hz1 hb
        go_wp2_with fail
        go_loopw [7, 8, 9, 34] (fun _ _ _ ii wr => ∃ k : Nat, ii = .int .i64 k ∧ k ≤ fs.length ∧ (∀ j, j < k → typE fs X j = 0) ∧ Below w.heap.size w wr) (fun _ _ _ ii _ => fs.length - (intOf ii).toNat)
        case atStart => exact ⟨0, rfl, by omega, fun j hj => absurd hj (by omega), HBp.out⟩
        case round =>
          obtain ⟨k, rfl, hk, hz, hb⟩ := hrel
          by_cases hlt : k < fs.length
          · obtain ⟨ad, rfl, hat⟩ := HF.out k hlt
            obtain ⟨q0, q1, q2, q3, q4, q5, q6, q7, q8⟩ := hat.of_block (hb.block _ hat.lt)
            obtain ⟨hs, his⟩ := HX.out k hlt
            have hoe : typE fs X k = srcE fs fs[k] (X k) := by unfold typE; rw [dif_pos hlt]
            have htyp := HTyp.out HZ1.out k hlt hz
            have hnext : typE fs X k = 0 → ∀ j, j < k + 1 → typE fs X j = 0 := fun e j hj => by
              by_cases h : j = k
              · subst h; exact e
              · exact hz j (by omega)
            obtain ⟨f, hfk⟩ : ∃ f, fs[k] = f := ⟨_, rfl⟩
            rw [hfk] at q0 q1 q2 q3 q4 q5 q6 q7 q8 hs his hoe
            obtain ⟨W5, hW5⟩ : ∃ V, wr.alloc (.cells #[.string f.nm, .int .i64 f.kind, .int .i64 f.ty, .int .i64 f.d.op, .int .i64 f.d.k, .int .i64 f.d.n, .string f.d.s, .string f.d.nm, .slice f.A f.n f.c] 48) = V := ⟨_, rfl⟩
            obtain ⟨B9, hB9⟩ : ∃ B, wr.heap.size = B := ⟨_, rfl⟩
            have hb5 := b_more hb (.cells #[.string f.nm, .int .i64 f.kind, .int .i64 f.ty, .int .i64 f.d.op, .int .i64 f.d.k, .int .i64 f.d.n, .string f.d.s, .string f.d.nm, .slice f.A f.n f.c] 48)
            have hcell := head_cells wr f
            unfold rightHead at hcell
            rw [hW5, hB9] at hcell
            rw [hW5] at hb5
            have hkt : isT f.kind = true := by
              have h0 := HZ1.out k hlt
              unfold ownE at h0
              rw [dif_pos hlt, hfk] at h0
              by_cases hr : rightE f (X k) = 0
              · unfold rightE at hr
                by_cases hn : LexB.nameE f.nm.data.toList = 0
                · rw [if_neg (fun h => h hn)] at hr
                  by_cases hk2 : isT f.kind = true ∧ isT f.ty = true
                  · exact hk2.1
                  · rw [if_neg hk2] at hr; exact absurd hr (by decide)
                · rw [if_pos hn] at hr; exact absurd hr hn
              · rw [if_neg hr] at h0; exact absurd h0 hr
            obtain ⟨kt1, kt3⟩ := isT_iff.1 hkt
            have hct := TyRT.refOf_any (X k) fs (some ad) fc f.d f.A f.n f.c W5 (HNd.out k hlt) hm (his.below hb5) (HF.out.below hb5)
            unfold srcE fitsT at hoe
            generalize (ofT (fts fs) (X k)).1 = r1 at hct hoe
            generalize (ofT (fts fs) (X k)).2 = r2 at hct hoe
            generalize typE fs X k = te at hoe htyp hnext
            have HCt := Lib.hid hct
            have HW5 := Lib.hid hW5
            have HB9 := Lib.hid hB9
            have HB5 := Lib.hid hb5
            have HTy := Lib.hid htyp
            have HNx := Lib.hid hnext
            have HOe := Lib.hid hoe
            have hk9 : k ≤ 14 := by omega
            obtain ⟨k0, k1, k2, k3, k4, k5, k6, k7, k8⟩ := hcell W5 (Below.refl _ _)
            clear hct hW5 hB9 hb5 htyp hnext hoe hz hb hat hs his hfk hkt
            have HCell := Lib.hid hcell
            clear hcell
            by_cases h1 : f.kind = 1
            · have t1 : (f.kind == 1) = true := beq_iff_eq.2 h1
              have hte : te = 0 := by rw [HOe.out, if_neg (by omega), if_neg (by omega)]
              have HN := Lib.hid (HNx.out hte)
              clear h1 hte
              go_wp2_with fail
              rw [HW5.out]
              go_roundw
              case rel => exact ⟨k + 1, by go_num, by omega, HN.out, HB5.out⟩
              case measure => simp [intOf]; omega
            · have t1 : (f.kind == 1) = false := beq_eq_false_iff_ne.2 h1
              have hk23 : 2 ≤ f.kind := by omega
              clear h1
              go_wp2_with fail
              rw [HW5.out, HB9.out]
              go_wp2_with fail
              refine HCt.out.mono ?_; rintro e w6 ⟨rfl, hb6⟩
              obtain ⟨k0, k1, k2, k3, k4, k5, k6, k7, k8⟩ := HCell.out w6 hb6
              have HB6 := Lib.hid (b_trans HB5.out hb6)
              clear hb6
              by_cases h2 : r2 = 0
              · subst h2
                by_cases h3 : f.kind = 2
                · have t3 : (f.kind == 2) = true := beq_iff_eq.2 h3
                  by_cases h4 : r1 = f.ty
                  · have t4 : (r1 != f.ty) = false := by rw [h4]; simp
                    have hte : te = 0 := by rw [HOe.out, if_pos h3, if_pos rfl, if_pos h4]
                    have HN := Lib.hid (HNx.out hte)
                    clear h3 h4 hte
                    go_wp2_with fail
                    go_roundw
                    case rel => exact ⟨k + 1, by go_num, by omega, HN.out, HB6.out⟩
                    case measure => simp [intOf]; omega
                  · have t4 : (r1 != f.ty) = true := by simpa using h4
                    have hte : te = 9 := by rw [HOe.out, if_pos h3, if_pos rfl, if_neg h4]
                    obtain rfl := (HTy.out (by rw [hte]; decide)).trans hte
                    clear h3 h4 hte
                    go_wp2_with fail
                    go_ret
                    exact ⟨rfl, HB6.out⟩
                · have t3 : (f.kind == 2) = false := beq_eq_false_iff_ne.2 h3
                  have hte : te = 0 := by rw [HOe.out, if_neg h3, if_pos (by omega)]
                  have HN := Lib.hid (HNx.out hte)
                  clear h3 hte
                  go_wp2_with fail
                  go_roundw
                  case rel => exact ⟨k + 1, by go_num, by omega, HN.out, HB6.out⟩
                  case measure => simp [intOf]; omega
              · have t5 : (r2 == 0) = false := beq_eq_false_iff_ne.2 h2
                have t6 : (r2 != 0) = true := by simpa using h2
                have hte : te = r2 := by
                  rw [HOe.out]
                  by_cases h3 : f.kind = 2
                  · rw [if_pos h3, if_neg h2]
                  · rw [if_neg h3, if_pos (by omega)]
                obtain rfl := (HTy.out (by rw [hte]; exact h2)).trans hte
                clear h2 hte
                go_wp2_with fail
                go_ret
                exact ⟨rfl, HB6.out⟩
          · obtain rfl := HAll.out HZ1.out fun j hj => hz j (by omega)
            have HB6 := Lib.hid hb
            clear hz hb
            go_wp2_with fail
            go_ret
            exact ⟨rfl, HB6.out⟩
end Go.Proofs.YthgcmficmodhiaaGreatDoor.FldC
