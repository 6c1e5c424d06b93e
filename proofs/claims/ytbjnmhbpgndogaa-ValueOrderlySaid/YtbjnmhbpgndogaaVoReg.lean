/- Three values made in one statement: what holds of the frame and of the world, whatever has been carried out. -/
import Derived.Test.YtbjnmhbpgndogaaVoStep
import Derived.Test.YtbjnmhbpgndogaaRegInv
namespace Go.Proofs.Ytbjnmhbpgndogaa.Vo
open Go.RowKit
open Kit RegI
set_option linter.unusedVariables false

/-- One of the three: its block is made by operation i, its value is stored by operation s. -/
def One (D : Nat → Bool) (f : Nat → Value) (w : World) (H i s G : Nat) (k n : Int) (t : ByteArray) : Prop :=
  (D s = true → D i = true) ∧ (D i = true → f i = .pointer (some ⟨G, 0, none⟩) ∧ H ≤ G ∧ G < w.heap.size ∧ ∃ k' n' t', BV w G k' n' t' ∧ (D s = true → k' = k ∧ n' = n ∧ t' = t))
theorem One.keep {D : Nat → Bool} {f : Nat → Value} {w w' : World} {H i s G : Nat} {k n : Int} {t : ByteArray} (h : One D f w H i s G k n t) (j : Nat) (v : Value) (hi : i ≠ j) (hs : s ≠ j) (hz : w.heap.size ≤ w'.heap.size) (hw : G < w.heap.size → w'.heap[G]? = w.heap[G]?) : One (upd D j) (updf f j v) w' H i s G k n t := by
  refine ⟨fun h1 => ?_, fun h1 => ?_⟩
  · rw [upd_ne _ _ _ hs] at h1; rw [upd_ne _ _ _ hi]; exact h.1 h1
  · rw [upd_ne _ _ _ hi] at h1
    obtain ⟨e, hH, hG, k', n', t', hB, hv⟩ := h.2 h1
    refine ⟨by rw [updf_ne _ _ _ _ hi]; exact e, hH, by omega, k', n', t', (hw hG).trans hB, fun h2 => hv ?_⟩
    rw [upd_ne _ _ _ hs] at h2; exact h2
theorem One.same {D : Nat → Bool} {f : Nat → Value} {w w' : World} {H i s G : Nat} {k n : Int} {t : ByteArray} (h : One D f w H i s G k n t) (j : Nat) (hi : i ≠ j) (hs : s ≠ j) (hz : w.heap.size ≤ w'.heap.size) (hw : D i = true → w'.heap[G]? = w.heap[G]?) : One (upd D j) f w' H i s G k n t := by
  refine ⟨fun h1 => ?_, fun h1 => ?_⟩
  · rw [upd_ne _ _ _ hs] at h1; rw [upd_ne _ _ _ hi]; exact h.1 h1
  · rw [upd_ne _ _ _ hi] at h1
    obtain ⟨e, hH, hG, k', n', t', hB, hv⟩ := h.2 h1
    refine ⟨e, hH, by omega, k', n', t', (hw h1).trans hB, fun h2 => hv ?_⟩
    rw [upd_ne _ _ _ hs] at h2; exact h2
theorem One.made {D : Nat → Bool} {f : Nat → Value} {w w' : World} {H i s G : Nat} {k n : Int} {t : ByteArray} (h : One D f w H i s G k n t) (hD : D i = false) (his : s ≠ i) (g : Nat) (hg : g = w.heap.size) (hH : H ≤ w.heap.size) (hB : BV w' g 0 0 ⟨#[]⟩) : One (upd D i) (updf f i (.pointer (some ⟨g, 0, none⟩))) w' H i s g k n t := by
  refine ⟨fun h1 => upd_at _ _, fun _ => ⟨updf_at _ _ _, by omega, hB.lt, 0, 0, ⟨#[]⟩, hB, fun h2 => ?_⟩⟩
  rw [upd_ne _ _ _ his] at h2
  have := h.1 h2
  rw [hD] at this; cases this
theorem One.stored {D : Nat → Bool} {f : Nat → Value} {w w' : World} {H i s G : Nat} {k n : Int} {t : ByteArray} (h : One D f w H i s G k n t) (hD : D i = true) (his : i ≠ s) (hB : BV w' G k n t) : One (upd D s) f w' H i s G k n t := by
  obtain ⟨e, hH, _⟩ := h.2 hD
  refine ⟨fun _ => by rw [upd_ne _ _ _ his]; exact hD, fun _ => ⟨e, hH, hB.lt, k, n, t, hB, fun _ => ⟨rfl, rfl, rfl⟩⟩⟩

/-- The whole. -/
def J (W : World) (T : Nat → Value) (k n1 : Int) (t1 : ByteArray) (n2 : Int) (t2 : ByteArray) (n3 : Int) (t3 : ByteArray) (D : Nat → Bool) (f : Nat → Value) (w : World) : Prop :=
  Below W.heap.size W w ∧ (∀ i, i < 9 → D i = true → f i = T i) ∧ ∃ G1 G2 G3, One D f w W.heap.size 9 12 G1 k n1 t1 ∧ One D f w W.heap.size 10 13 G2 k n2 t2 ∧ One D f w W.heap.size 11 14 G3 k n3 t3 ∧
    (D 9 = true → D 10 = true → G1 ≠ G2) ∧ (D 9 = true → D 11 = true → G1 ≠ G3) ∧ (D 10 = true → D 11 = true → G2 ≠ G3)

section
variable {W : World} {T : Nat → Value} {k n1 n2 n3 : Int} {t1 t2 t3 : ByteArray} {D : Nat → Bool} {f : Nat → Value} {w w' : World}
theorem j_start (W : World) (T : Nat → Value) (f : Nat → Value) : J W T k n1 t1 n2 t2 n3 t3 (fun _ => false) f W.drew := by
  refine ⟨Below.drew (Below.refl _ _), fun i _ h => Bool.noConfusion h, 0, 0, 0, ⟨fun h => h, fun h => Bool.noConfusion h⟩, ⟨fun h => h, fun h => Bool.noConfusion h⟩, ⟨fun h => h, fun h => Bool.noConfusion h⟩, fun h => Bool.noConfusion h, fun h => Bool.noConfusion h, fun h => Bool.noConfusion h⟩
theorem tab (h : J W T k n1 t1 n2 t2 n3 t3 D f w) (i : Nat) (hi : i < 9) (hd : D i = true) : f i = T i := h.2.1 i hi hd
theorem j_val (h : J W T k n1 t1 n2 t2 n3 t3 D f w) (i : Nat) (hi : i < 9) (hb : Below w.heap.size w w') : J W T k n1 t1 n2 t2 n3 t3 (upd D i) (updf f i (T i)) w' := by
  obtain ⟨hW, hT, G1, G2, G3, o1, o2, o3, d12, d13, d23⟩ := h
  have hk := fun (G : Nat) (hG : G < w.heap.size) => hb.block G hG
  refine ⟨b_trans hW hb, fun j hj hd => ?_, G1, G2, G3, o1.keep i _ (by omega) (by omega) hb.size (hk _), o2.keep i _ (by omega) (by omega) hb.size (hk _), o3.keep i _ (by omega) (by omega) hb.size (hk _), ?_, ?_, ?_⟩
  · by_cases e : j = i
    · subst e; exact updf_at _ _ _
    · rw [updf_ne _ _ _ _ e]; rw [upd_ne _ _ _ e] at hd; exact hT j hj hd
  · intro a b; rw [upd_ne _ _ _ (by omega)] at a b; exact d12 a b
  · intro a b; rw [upd_ne _ _ _ (by omega)] at a b; exact d13 a b
  · intro a b; rw [upd_ne _ _ _ (by omega)] at a b; exact d23 a b
theorem j_is (h : J W T k n1 t1 n2 t2 n3 t3 D f w) (i : Nat) (v : Value) (hi : i < 9) (hv : T i = v) (hb : Below w.heap.size w w') : J W T k n1 t1 n2 t2 n3 t3 (upd D i) (updf f i v) w' := by
  subst hv; exact j_val h i hi hb
theorem dep {o : Oper} (h : ∀ e ∈ o.after, Region.binds .any e = true → D e.on = true) (j : Nat) (hj : (o.after.any fun e => e.on == j && Region.binds .any e) = true) : D j = true := by
  obtain ⟨e, he, h1⟩ := Array.any_eq_true'.1 hj
  simp only [Bool.and_eq_true, beq_iff_eq] at h1
  obtain ⟨rfl, h2⟩ := h1
  exact h e he h2
theorem j_new1 (h : J W T k n1 t1 n2 t2 n3 t3 D f w) (hd : D 9 = false) {g : Nat} (hB : BV w' g 0 0 ⟨#[]⟩) (hg : g = w.heap.size) (hb : Below w.heap.size w w') : J W T k n1 t1 n2 t2 n3 t3 (upd D 9) (updf f 9 (.pointer (some ⟨g, 0, none⟩))) w' := by
  obtain ⟨hW, hT, G1, G2, G3, o1, o2, o3, d12, d13, d23⟩ := h
  have hk := fun (G : Nat) (hG : G < w.heap.size) => hb.block G hG
  refine ⟨b_trans hW hb, fun j hj hd => ?_, g, G2, G3, o1.made hd (by omega) g hg hW.size hB, o2.keep 9 _ (by omega) (by omega) hb.size (hk _), o3.keep 9 _ (by omega) (by omega) hb.size (hk _), ?_, ?_, ?_⟩
  · rw [updf_ne _ _ _ _ (by omega)]; rw [upd_ne _ _ _ (by omega)] at hd; exact hT j hj hd
  · intro a b; rw [upd_ne _ _ _ (by omega)] at b; have := (o2.2 b).2.2.1; omega
  · intro a b; rw [upd_ne _ _ _ (by omega)] at b; have := (o3.2 b).2.2.1; omega
  · intro a b; rw [upd_ne _ _ _ (by omega)] at a b; exact d23 a b
theorem j_sto1 (h : J W T k n1 t1 n2 t2 n3 t3 D f w) (hd : D 9 = true) : ∃ G, f 9 = .pointer (some ⟨G, 0, none⟩) ∧ (∃ k0 n0 t0, BV w G k0 n0 t0) ∧ ∀ Y : World, BV Y G k n1 t1 → (∀ b, b ≠ G → Y.heap[b]? = w.heap[b]?) → (∀ B, B ≤ G → ∀ V, Below B V w → Below B V Y) → J W T k n1 t1 n2 t2 n3 t3 (upd D 12) f Y := by
  obtain ⟨hW, hT, G1, G2, G3, o1, o2, o3, d12, d13, d23⟩ := h
  obtain ⟨e, hH, hG, k0, n0, t0, hB0, _⟩ := o1.2 hd
  refine ⟨G1, e, ⟨k0, n0, t0, hB0⟩, fun Y hB hk hb => ?_⟩
  have hz : w.heap.size ≤ Y.heap.size := (hb G1 (Nat.le_refl _) w (Below.refl _ _)).size
  refine ⟨hb _ hH _ hW, fun j hj hd => ?_, G1, G2, G3, o1.stored hd (by omega) hB, o2.same 12 (by omega) (by omega) hz (fun h => hk _ (by have := d12 hd h; exact fun e => this (by rw [e]))), o3.same 12 (by omega) (by omega) hz (fun h => hk _ (by have := d13 hd h; exact fun e => this (by rw [e]))), ?_, ?_, ?_⟩
  · rw [upd_ne _ _ _ (by omega)] at hd; exact hT j hj hd
  · intro a b; rw [upd_ne _ _ _ (by omega)] at a b; exact d12 a b
  · intro a b; rw [upd_ne _ _ _ (by omega)] at a b; exact d13 a b
  · intro a b; rw [upd_ne _ _ _ (by omega)] at a b; exact d23 a b
theorem j_new2 (h : J W T k n1 t1 n2 t2 n3 t3 D f w) (hd : D 10 = false) {g : Nat} (hB : BV w' g 0 0 ⟨#[]⟩) (hg : g = w.heap.size) (hb : Below w.heap.size w w') : J W T k n1 t1 n2 t2 n3 t3 (upd D 10) (updf f 10 (.pointer (some ⟨g, 0, none⟩))) w' := by
  obtain ⟨hW, hT, G1, G2, G3, o1, o2, o3, d12, d13, d23⟩ := h
  have hk := fun (G : Nat) (hG : G < w.heap.size) => hb.block G hG
  refine ⟨b_trans hW hb, fun j hj hd => ?_, G1, g, G3, o1.keep 10 _ (by omega) (by omega) hb.size (hk _), o2.made hd (by omega) g hg hW.size hB, o3.keep 10 _ (by omega) (by omega) hb.size (hk _), ?_, ?_, ?_⟩
  · rw [updf_ne _ _ _ _ (by omega)]; rw [upd_ne _ _ _ (by omega)] at hd; exact hT j hj hd
  · intro a b; rw [upd_ne _ _ _ (by omega)] at a; have := (o1.2 a).2.2.1; omega
  · intro a b; rw [upd_ne _ _ _ (by omega)] at a b; exact d13 a b
  · intro a b; rw [upd_ne _ _ _ (by omega)] at b; have := (o3.2 b).2.2.1; omega
theorem j_sto2 (h : J W T k n1 t1 n2 t2 n3 t3 D f w) (hd : D 10 = true) : ∃ G, f 10 = .pointer (some ⟨G, 0, none⟩) ∧ (∃ k0 n0 t0, BV w G k0 n0 t0) ∧ ∀ Y : World, BV Y G k n2 t2 → (∀ b, b ≠ G → Y.heap[b]? = w.heap[b]?) → (∀ B, B ≤ G → ∀ V, Below B V w → Below B V Y) → J W T k n1 t1 n2 t2 n3 t3 (upd D 13) f Y := by
  obtain ⟨hW, hT, G1, G2, G3, o1, o2, o3, d12, d13, d23⟩ := h
  obtain ⟨e, hH, hG, k0, n0, t0, hB0, _⟩ := o2.2 hd
  refine ⟨G2, e, ⟨k0, n0, t0, hB0⟩, fun Y hB hk hb => ?_⟩
  have hz : w.heap.size ≤ Y.heap.size := (hb G2 (Nat.le_refl _) w (Below.refl _ _)).size
  refine ⟨hb _ hH _ hW, fun j hj hd => ?_, G1, G2, G3, o1.same 13 (by omega) (by omega) hz (fun h => hk _ (by have := d12 h hd; exact fun e => this (by rw [e]))), o2.stored hd (by omega) hB, o3.same 13 (by omega) (by omega) hz (fun h => hk _ (by have := d23 hd h; exact fun e => this (by rw [e]))), ?_, ?_, ?_⟩
  · rw [upd_ne _ _ _ (by omega)] at hd; exact hT j hj hd
  · intro a b; rw [upd_ne _ _ _ (by omega)] at a b; exact d12 a b
  · intro a b; rw [upd_ne _ _ _ (by omega)] at a b; exact d13 a b
  · intro a b; rw [upd_ne _ _ _ (by omega)] at a b; exact d23 a b
theorem j_new3 (h : J W T k n1 t1 n2 t2 n3 t3 D f w) (hd : D 11 = false) {g : Nat} (hB : BV w' g 0 0 ⟨#[]⟩) (hg : g = w.heap.size) (hb : Below w.heap.size w w') : J W T k n1 t1 n2 t2 n3 t3 (upd D 11) (updf f 11 (.pointer (some ⟨g, 0, none⟩))) w' := by
  obtain ⟨hW, hT, G1, G2, G3, o1, o2, o3, d12, d13, d23⟩ := h
  have hk := fun (G : Nat) (hG : G < w.heap.size) => hb.block G hG
  refine ⟨b_trans hW hb, fun j hj hd => ?_, G1, G2, g, o1.keep 11 _ (by omega) (by omega) hb.size (hk _), o2.keep 11 _ (by omega) (by omega) hb.size (hk _), o3.made hd (by omega) g hg hW.size hB, ?_, ?_, ?_⟩
  · rw [updf_ne _ _ _ _ (by omega)]; rw [upd_ne _ _ _ (by omega)] at hd; exact hT j hj hd
  · intro a b; rw [upd_ne _ _ _ (by omega)] at a b; exact d12 a b
  · intro a b; rw [upd_ne _ _ _ (by omega)] at a; have := (o1.2 a).2.2.1; omega
  · intro a b; rw [upd_ne _ _ _ (by omega)] at a; have := (o2.2 a).2.2.1; omega
theorem j_sto3 (h : J W T k n1 t1 n2 t2 n3 t3 D f w) (hd : D 11 = true) : ∃ G, f 11 = .pointer (some ⟨G, 0, none⟩) ∧ (∃ k0 n0 t0, BV w G k0 n0 t0) ∧ ∀ Y : World, BV Y G k n3 t3 → (∀ b, b ≠ G → Y.heap[b]? = w.heap[b]?) → (∀ B, B ≤ G → ∀ V, Below B V w → Below B V Y) → J W T k n1 t1 n2 t2 n3 t3 (upd D 14) f Y := by
  obtain ⟨hW, hT, G1, G2, G3, o1, o2, o3, d12, d13, d23⟩ := h
  obtain ⟨e, hH, hG, k0, n0, t0, hB0, _⟩ := o3.2 hd
  refine ⟨G3, e, ⟨k0, n0, t0, hB0⟩, fun Y hB hk hb => ?_⟩
  have hz : w.heap.size ≤ Y.heap.size := (hb G3 (Nat.le_refl _) w (Below.refl _ _)).size
  refine ⟨hb _ hH _ hW, fun j hj hd => ?_, G1, G2, G3, o1.same 14 (by omega) (by omega) hz (fun h => hk _ (by have := d13 h hd; exact fun e => this (by rw [e]))), o2.same 14 (by omega) (by omega) hz (fun h => hk _ (by have := d23 h hd; exact fun e => this (by rw [e]))), o3.stored hd (by omega) hB, ?_, ?_, ?_⟩
  · rw [upd_ne _ _ _ (by omega)] at hd; exact hT j hj hd
  · intro a b; rw [upd_ne _ _ _ (by omega)] at a b; exact d12 a b
  · intro a b; rw [upd_ne _ _ _ (by omega)] at a b; exact d13 a b
  · intro a b; rw [upd_ne _ _ _ (by omega)] at a b; exact d23 a b
theorem j_end (h : J W T k n1 t1 n2 t2 n3 t3 D f w) (hd : ∀ i, i < 15 → D i = true) : ∃ G1 G2 G3, f 9 = .pointer (some ⟨G1, 0, none⟩) ∧ f 10 = .pointer (some ⟨G2, 0, none⟩) ∧ f 11 = .pointer (some ⟨G3, 0, none⟩) ∧ BV w G1 k n1 t1 ∧ BV w G2 k n2 t2 ∧ BV w G3 k n3 t3 ∧ Below W.heap.size W w := by
  obtain ⟨hW, hT, G1, G2, G3, o1, o2, o3, d12, d13, d23⟩ := h
  obtain ⟨e1, _, _, k1, m1, u1, b1, v1⟩ := o1.2 (hd 9 (by omega))
  obtain ⟨e2, _, _, k2, m2, u2, b2, v2⟩ := o2.2 (hd 10 (by omega))
  obtain ⟨e3, _, _, k3, m3, u3, b3, v3⟩ := o3.2 (hd 11 (by omega))
  obtain ⟨rfl, rfl, rfl⟩ := v1 (hd 12 (by omega))
  obtain ⟨rfl, rfl, rfl⟩ := v2 (hd 13 (by omega))
  obtain ⟨rfl, rfl, rfl⟩ := v3 (hd 14 (by omega))
  exact ⟨G1, G2, G3, e1, e2, e3, b1, b2, b3, hW⟩
end
end Go.Proofs.Ytbjnmhbpgndogaa.Vo
