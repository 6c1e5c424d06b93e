/- Package field: the copy of fields. -/
import Derived.Test.YtdlfhldboagbeaaGreatDoorFrmBase
import Derived.Test.YtdlfhldboagbeaaGreatDoorNmCopy
import Derived.Test.YtdlfhldboagbeaaGreatDoorFld
import Derived.Test.YtdlfhldboagbeaaGreatDoorFldCheck
import Derived.Deep.MidRow
namespace Go.Proofs.YtdlfhldboagbeaaGreatDoor.FldY
open Go.RowKit
open ValM LexM NumM ExM Kit ExL ExP RawV Within RawL GenL Gen FrmM NmC FldP FldR
set_option linter.unusedVariables false

theorem blk_set_ {w : World} {B : Nat} {cs : Array Value} {t : TypeId} {fr : Nat × Nat} (h : w.heap[B]? = some (.cells cs t fr)) (o : Nat) (v : Value) : (w.setCell ⟨B, o, none⟩ v).heap[B]? = some (.cells (cs.setIfInBounds o v) t fr) := by
  simp [World.setCell, Array.getElem?_modify, h]
theorem set6q_heap {w : World} {B b : Nat} (h : b ≠ B) (v0 v1 v2 v3 v4 v5 : Value) : ((((((w.setCell ⟨B, 3, none⟩ v0).setCell ⟨B, 4, none⟩ v1).setCell ⟨B, 5, none⟩ v2).setCell ⟨B, 6, none⟩ v3).setCell ⟨B, 7, none⟩ v4).setCell ⟨B, 8, none⟩ v5).heap[b]? = w.heap[b]? := by
  rw [Below.heap_setCell _ ⟨B, 8, none⟩ _ b h, Below.heap_setCell _ ⟨B, 7, none⟩ _ b h, Below.heap_setCell _ ⟨B, 6, none⟩ _ b h, Below.heap_setCell _ ⟨B, 5, none⟩ _ b h, Below.heap_setCell _ ⟨B, 4, none⟩ _ b h, Below.heap_setCell _ ⟨B, 3, none⟩ _ b h]
theorem set9_list {xs r : List Value} {i : Nat} (h : i = xs.length) (hr : 9 ≤ r.length) (v0 v1 v2 v3 v4 v5 v6 v7 v8 : Value) : ((((((((((xs ++ r).set (i) v0).set (i + 1) v1).set (i + 2) v2).set (i + 3) v3).set (i + 4) v4).set (i + 5) v5).set (i + 6) v6).set (i + 7) v7).set (i + 8) v8) = (xs ++ [v0, v1, v2, v3, v4, v5, v6, v7, v8]) ++ r.drop 9 := by
  match r, hr with
  | r0 :: r1 :: r2 :: r3 :: r4 :: r5 :: r6 :: r7 :: r8 :: t, _ =>
    subst h
    rw [set_app xs _ 0 _ (Nat.add_zero _).symm, set_app xs _ 1 _ rfl, set_app xs _ 2 _ rfl, set_app xs _ 3 _ rfl, set_app xs _ 4 _ rfl, set_app xs _ 5 _ rfl, set_app xs _ 6 _ rfl, set_app xs _ 7 _ rfl, set_app xs _ 8 _ rfl]
    simp
theorem set9_own {w : World} {base g n cap i : Nat} {xs r : List Value} {e : TypeId} (h : w.ownsRow base e 9 (.slice (some ⟨g, 0, none⟩) n cap) n (xs ++ r)) (hi : i = xs.length) (hr : 9 ≤ r.length) (v0 v1 v2 v3 v4 v5 v6 v7 v8 : Value) :
    (w.setCells g i [v0, v1, v2, v3, v4, v5, v6, v7, v8]).ownsRow base e 9 (.slice (some ⟨g, 0, none⟩) n cap) n ((xs ++ [v0, v1, v2, v3, v4, v5, v6, v7, v8]) ++ r.drop 9) := by
  rw [← set9_list hi hr]
  exact (((((((((h.stored (i) v0).1.stored (i + 1) v1).1.stored (i + 2) v2).1.stored (i + 3) v3).1.stored (i + 4) v4).1.stored (i + 5) v5).1.stored (i + 6) v6).1.stored (i + 7) v7).1.stored (i + 8) v8).1
theorem infoFd_ : (Tryz.prog.info? 50).map (fun i => (i.zero, i.size, i.bytes)) = some (some (.agg #[.string ⟨#[]⟩, .int .i64 0, .int .i64 0, .int .i64 0, .int .i64 0, .int .i64 0, .string ⟨#[]⟩, .string ⟨#[]⟩, .slice none 0 0]), 9, 112) := by kernel_rfl
theorem heap_cells (g : Nat) (vs : List Value) : ∀ (o : Nat) (w : World) (b : Nat), b ≠ g → (w.setCells g o vs).heap[b]? = w.heap[b]? := by
  induction vs with
  | nil => exact fun _ _ _ _ => rfl
  | cons v r ih => exact fun o w b hb => (ih (o + 1) (w.setCell ⟨g, o, none⟩ v) b hb).trans (Below.heap_setCell w ⟨g, o, none⟩ v b hb)
theorem below_cells {B g : Nat} {a : World} (hg : B ≤ g) (vs : List Value) : ∀ (o : Nat) (w : World), Below B a w → Below B a (w.setCells g o vs) := by
  induction vs with
  | nil => exact fun _ _ h => h
  | cons v r ih => exact fun o w h => ih (o + 1) (w.setCell ⟨g, o, none⟩ v) (h.setCell (p := ⟨g, o, none⟩) hg v)
/-- A copy of fields. -/
def CopyOut (fs : List GenL.Fd) (X : Nat → Ex) (w : World) (e : Ending) (w' : World) : Prop :=
  ∃ (G : List GenL.Fd) (A : Option Addr) (c : Nat), e = .returned (.slice A G.length c) ∧ G.length = fs.length ∧ Flds w' A G ∧ (∀ (k : Nat) (h : k < G.length) (h2 : k < fs.length), G[k].nm = fs[k].nm ∧ G[k].kind = fs[k].kind ∧ G[k].ty = fs[k].ty ∧ Is w' (X k) G[k].d G[k].A G[k].n) ∧ Below w.heap.size w w'
structure CI (w : World) (fs : List GenL.Fd) (X : Nat → Ex) (k : Nat) (es : List FE) (wr : World) : Prop where
  le : k ≤ fs.length
  len : es.length = k
  val : ∀ (i : Nat) (h : i < es.length) (h2 : i < fs.length), es[i].nm = fs[i].nm ∧ es[i].kind = fs[i].kind ∧ es[i].ty = fs[i].ty ∧ es[i].x = X i
  own : ∃ r : List Value, wr.ownsRow w.heap.size 50 9 (.slice (some ⟨w.heap.size, 0, none⟩) fs.length fs.length) fs.length (feC es ++ r)
  is : ∀ e ∈ es, IsP (fun b => w.heap.size < b) wr e.x e.x.d e.B e.m
  below : Below w.heap.size w wr
  lt : w.heap.size < wr.heap.size
theorem CI.step {w : World} {fs : List GenL.Fd} {X : Nat → Ex} {k : Nat} {es : List FE} {wr W6 : World} {f : GenL.Fd} {d : Nd} {B : Option Addr} {m c : Nat} (h : CI w fs X k es wr) (hk : k < fs.length) (hf : fs[k] = f) (hi : IsP (fun b => wr.heap.size < b) W6 (X k) d B m) (hb : Below wr.heap.size wr W6) :
    CI w fs X (k + 1) (es ++ [⟨f.nm, f.kind, f.ty, X k, B, m, c⟩]) (W6.setCells w.heap.size (k * 9) [.string f.nm, .int .i64 f.kind, .int .i64 f.ty, .int .i64 d.op, .int .i64 d.k, .int .i64 d.n, .string d.s, .string d.nm, .slice B m c]) := by
  have hd : d = (X k).d := ExS.is_d (IsP.is _ _ _ _ hi)
  subst hd
  have hw := h.lt
  have hs := hb.size
  have hne : ∀ b, b ≠ w.heap.size → (W6.setCells w.heap.size (k * 9) [.string f.nm, .int .i64 f.kind, .int .i64 f.ty, .int .i64 (X k).d.op, .int .i64 (X k).d.k, .int .i64 (X k).d.n, .string (X k).d.s, .string (X k).d.nm, .slice B m c]).heap[b]? = W6.heap[b]? := fun b hb9 => heap_cells _ _ _ _ b hb9
  refine ⟨hk, by simp [h.len], fun i hi1 hi2 => ?_, ?_, fun e he => ?_, ?_, ?_⟩
  · by_cases hie : i < es.length
    · rw [List.getElem_append_left hie]; exact h.val i hie hi2
    · have e : i = es.length := by simp at hi1; omega
      subst e
      have hkk := h.len
      subst hkk
      simp only [List.getElem_concat_length]
      rw [hf]
      simp
  · obtain ⟨r, hr⟩ := h.own
    have hl : (feC es ++ r).length = fs.length * 9 := hr.1
    rw [List.length_append, feC_len, h.len] at hl
    have hr1 : W6.ownsRow w.heap.size 50 9 (.slice (some ⟨w.heap.size, 0, none⟩) fs.length fs.length) fs.length (feC es ++ r) :=
      hr.kept (row := none) ⟨hb.os, hb.tape, hb.output, hb.size, fun k hk _ => hb.block k hk⟩ (.inr (by simp [Value.ownBlock]))
    refine ⟨r.drop 9, ?_⟩
    rw [feC_snoc]
    exact set9_own hr1 (by rw [feC_len, h.len]) (by omega) _ _ _ _ _ _ _ _ _
  · rcases List.mem_append.1 he with he | he
    · exact IsP.keep (fun b hb2 hl => (hne b (by omega)).trans (hb.block b hl)) (fun b hb2 _ => hb2) _ _ _ _ (h.is e he)
    · simp at he; subst he
      exact IsP.keep (fun b hb2 hl => hne b (by omega)) (fun b hb2 _ => by omega) _ _ _ _ hi
  · exact below_cells (Nat.le_refl _) _ _ _ (h.below.trans (hb.mono h.below.size))
  · have : (W6.setCells w.heap.size (k * 9) [.string f.nm, .int .i64 f.kind, .int .i64 f.ty, .int .i64 (X k).d.op, .int .i64 (X k).d.k, .int .i64 (X k).d.n, .string (X k).d.s, .string (X k).d.nm, .slice B m c]).heap.size = W6.heap.size := by simp only [World.setCells, sz_set]
    omega
theorem CI.done {w : World} {fs : List GenL.Fd} {X : Nat → Ex} {es : List FE} {wr : World} (h : CI w fs X fs.length es wr) : CopyOut fs X w (.returned (.slice (some ⟨w.heap.size, 0, none⟩) fs.length fs.length)) wr := by
  obtain ⟨r, hr⟩ := h.own
  have hlen : (feC es ++ r).length = fs.length * 9 := hr.1
  rw [List.length_append, feC_len, h.len] at hlen
  have hc : ∀ j, j < es.length * 9 → wr.cell? ⟨w.heap.size, j, none⟩ = (feC es)[j]? := fun j hj => by
    rw [hr.cellAt j (by rw [h.len] at hj; exact hj), List.getElem?_append_left (by rw [feC_len]; exact hj)]
  refine ⟨es.map FE.fd, some ⟨w.heap.size, 0, none⟩, fs.length, by rw [List.length_map, h.len], by rw [List.length_map, h.len], flds_of hc, fun k h1 h2 => ?_, h.below⟩
  have h1' : k < es.length := by simpa using h1
  obtain ⟨a, b, c, d⟩ := h.val k h1' h2
  rw [List.getElem_map]
  refine ⟨a, b, c, ?_⟩
  rw [← d]
  exact IsP.is _ _ _ _ (h.is _ (List.getElem_mem h1'))
set_option maxRecDepth 100000 in
set_option maxHeartbeats 4000000 in
theorem copy_any (fs : List GenL.Fd) (X : Nat → Ex) (FA : Option Addr) (fc : Nat) (w : World) (hm : fs.length ≤ 1048576) (hf : Flds w FA fs) (hX : ∀ (k : Nat) (h : k < fs.length), Is w (X k) fs[k].d fs[k].A fs[k].n) (hN : ∀ k, k < fs.length → (X k).nodes ≤ 1048576) :
    Calls Tryz.prog 25 #[.slice FA fs.length fc] w (CopyOut fs X w) := by
  obtain ⟨i0, hi, hz0, hz1, hz2⟩ := info_parts infoFd_
  have HF := Lib.hid hf
  have HX := Lib.hid hX
  have HN := Lib.hid hN
  have hI0 : ∀ W', W'.ownsRow w.heap.size 50 9 (.slice (some ⟨w.heap.size, 0, none⟩) fs.length fs.length) fs.length (madeCells (Value.agg #[.string ⟨#[]⟩, .int .i64 0, .int .i64 0, .int .i64 0, .int .i64 0, .int .i64 0, .string ⟨#[]⟩, .string ⟨#[]⟩, .slice none 0 0]).cells (fs.length * 9)).toList → w.grownBy W' none → CI w fs X 0 [] W' := fun W' h1 h2 =>
    ⟨Nat.zero_le _, rfl, fun i h => absurd h (by simp), ⟨_, h1⟩, fun e he => by simp at he, (Below.refl _ _).grown h2 (Nat.le_refl _) (fun k e => by cases e), (h1.lt w.heap.size rfl).2⟩
  have HI0 := Lib.hid hI0
  clear hf hX hN hI0
  go_enter Tryz.func25, Tryz.ntmps25
  go_wp2_with ((at_make; refine wpList_make_full _ rfl _ _ 22 rfl w.heap.size 50 i0 _ 9 Tryz.underlying22 hi hz0 hz1 .i64 .i64 _ _ fs.length rfl rfl rfl rfl (by rw [hz2]; omega) (by unfold maxLen; omega) (Nat.le_refl _) ?_; intro w1 hown hgrow))
  have hI := HI0.out w1 hown hgrow
  have HI := Lib.hid hI
  clear hI hown hgrow
  go_wp2_with fail
  go_loopw [4, 5, 11] (fun _ _ i wr => ∃ (k : Nat) (es : List FE), i = .int .i64 k ∧ CI w fs X k es wr) (fun _ _ i _ => fs.length - (intOf i).toNat)
  case atStart => exact ⟨0, [], rfl, HI.out⟩
  case round =>
    obtain ⟨k, es, rfl, hV⟩ := hrel
    have hk := hV.le
    by_cases hlt : k < fs.length
    · obtain ⟨ad, rfl, hat⟩ := HF.out.below hV.below k hlt
      have his := (HX.out k hlt).below hV.below
      obtain ⟨f, hfk⟩ : ∃ f, fs[k] = f := ⟨_, rfl⟩
      rw [hfk] at hat his
      obtain ⟨q0, q1, q2, q3, q4, q5, q6, q7, q8⟩ := hat
      obtain ⟨W5, hW5⟩ : ∃ V, wr.alloc (.cells #[.string f.nm, .int .i64 f.kind, .int .i64 f.ty, .int .i64 f.d.op, .int .i64 f.d.k, .int .i64 f.d.n, .string f.d.s, .string f.d.nm, .slice f.A f.n f.c] 50) = V := ⟨_, rfl⟩
      obtain ⟨B5, hB5⟩ : ∃ B, wr.heap.size = B := ⟨_, rfl⟩
      have hb5 := b_new wr (.cells #[.string f.nm, .int .i64 f.kind, .int .i64 f.ty, .int .i64 f.d.op, .int .i64 f.d.k, .int .i64 f.d.n, .string f.d.s, .string f.d.nm, .slice f.A f.n f.c] 50)
      have hblk5 := World.alloc_heap_new wr (.cells #[.string f.nm, .int .i64 f.kind, .int .i64 f.ty, .int .i64 f.d.op, .int .i64 f.d.k, .int .i64 f.d.n, .string f.d.s, .string f.d.nm, .slice f.A f.n f.c] 50)
      rw [hW5] at hb5 hblk5
      rw [hB5] at hblk5
      have hs5 : B5 < W5.heap.size := (Array.getElem?_eq_some_iff.1 hblk5).1
      have hc := NmC.copy_any (X k) f.d f.A f.n f.c W5 (HN.out k hlt) (his.below hb5)
      have hcells : ∀ V : World, Below W5.heap.size W5 V → V.heap[B5]? = some (.cells #[.string f.nm, .int .i64 f.kind, .int .i64 f.ty, .int .i64 f.d.op, .int .i64 f.d.k, .int .i64 f.d.n, .string f.d.s, .string f.d.nm, .slice f.A f.n f.c] 50 (0, 0)) := fun V hV => (hV.block _ hs5).trans hblk5
      have hB5l : wr.heap.size ≤ B5 := Nat.le_of_eq hB5
      have hB5g : B5 ≤ wr.heap.size := Nat.le_of_eq hB5.symm
      have HC := Lib.hid hc
      have HV := Lib.hid hV
      have HCells := Lib.hid hcells
      have HW5 := Lib.hid hW5
      have HB5 := Lib.hid hB5
      have HBw5 := Lib.hid hb5
      have HFk := Lib.hid hfk
      have h5 := hcells W5 (Below.refl _ _)
      have k3 : W5.cell? ⟨B5, 3, none⟩ = some (.int .i64 f.d.op) := by simp [World.cell?, h5]
      have k4 : W5.cell? ⟨B5, 4, none⟩ = some (.int .i64 f.d.k) := by simp [World.cell?, h5]
      have k5 : W5.cell? ⟨B5, 5, none⟩ = some (.int .i64 f.d.n) := by simp [World.cell?, h5]
      have k6 : W5.cell? ⟨B5, 6, none⟩ = some (.string f.d.s) := by simp [World.cell?, h5]
      have k7 : W5.cell? ⟨B5, 7, none⟩ = some (.string f.d.nm) := by simp [World.cell?, h5]
      have k8 : W5.cell? ⟨B5, 8, none⟩ = some (.slice f.A f.n f.c) := by simp [World.cell?, h5]
      clear hc his hV hcells hW5 hB5 hb5 hfk hblk5 h5
      go_wp2_with fail
      rw [HW5.out, HB5.out]
      go_wp2_with fail
      refine HC.out.mono ?_; rintro e w2 ⟨d, B, m, c, rfl, hi2, hb2⟩
      have h2 := HCells.out w2 hb2
      have c7 : ∀ o, w2.cell? ⟨B5, o, none⟩ = (#[.string f.nm, .int .i64 f.kind, .int .i64 f.ty, .int .i64 f.d.op, .int .i64 f.d.k, .int .i64 f.d.n, .string f.d.s, .string f.d.nm, .slice f.A f.n f.c] : Array Value)[o]? := fun o => by simp [World.cell?, h2]
      have f7 : ∀ o, w2.frozen? ⟨B5, o, none⟩ = false := fun o => by simp [World.frozen?, h2]
      obtain ⟨W6, hW6⟩ : ∃ V, ((((((w2.setCell ⟨B5, 3, none⟩ (.int .i64 d.op)).setCell ⟨B5, 4, none⟩ (.int .i64 d.k)).setCell ⟨B5, 5, none⟩ (.int .i64 d.n)).setCell ⟨B5, 6, none⟩ (.string d.s)).setCell ⟨B5, 7, none⟩ (.string d.nm)).setCell ⟨B5, 8, none⟩ (.slice B m c)) = V := ⟨_, rfl⟩
      have h6 : W6.heap[B5]? = some (.cells #[.string f.nm, .int .i64 f.kind, .int .i64 f.ty, .int .i64 d.op, .int .i64 d.k, .int .i64 d.n, .string d.s, .string d.nm, .slice B m c] 50 (0, 0)) := by rw [← hW6]; exact blk_set_ (blk_set_ (blk_set_ (blk_set_ (blk_set_ (blk_set_ h2 3 _) 4 _) 5 _) 6 _) 7 _) 8 _
      have hbw2 : Below wr.heap.size wr w2 := HBw5.out.trans (hb2.mono HBw5.out.size)
      have hb6 : Below wr.heap.size wr W6 := by
        rw [← hW6]
        exact (((((hbw2.setCell hB5l _).setCell hB5l _).setCell hB5l _).setCell hB5l _).setCell hB5l _).setCell hB5l _
      have hi6 : IsP (fun b => wr.heap.size < b) W6 (X k) d B m := by
        rw [← hW6]
        exact IsP.keep (fun b hb9 hl9 => set6q_heap (by omega) _ _ _ _ _ _) (fun b hb9 hl9 => by omega) _ _ _ _ hi2
      have hS := HV.out.step (c := c) hlt HFk.out hi6 hb6
      have hthere : W6.there w.heap.size (k * 9) 9 := fun j hj => by
        obtain ⟨r, hr⟩ := HV.out.own
        have hl : (feC es ++ r).length = fs.length * 9 := hr.1
        have h9 : k * 9 + j < fs.length * 9 := by omega
        have hwl := HV.out.lt
        have e1 : W6.cell? ⟨w.heap.size, k * 9 + j, none⟩ = (feC es ++ r)[k * 9 + j]? := (hb6.cell (p := ⟨w.heap.size, k * 9 + j, none⟩) hwl).trans (hr.cellAt _ h9)
        refine ⟨by rw [e1, List.getElem?_eq_getElem (by omega)]; rfl, ?_⟩
        exact (hb6.frozen (p := ⟨w.heap.size, k * 9 + j, none⟩) hwl).trans (hr.frozenAt _)
      have hs6 := hb6.size
      have hS' : CI w fs X (k + 1) (es ++ [⟨f.nm, f.kind, f.ty, X k, B, m, c⟩]) (((((((((W6.setCell ⟨w.heap.size, k * 9, none⟩ (.string f.nm)).setCell ⟨w.heap.size, k * 9 + 1, none⟩ (.int .i64 f.kind)).setCell ⟨w.heap.size, k * 9 + 2, none⟩ (.int .i64 f.ty)).setCell ⟨w.heap.size, k * 9 + 3, none⟩ (.int .i64 d.op)).setCell ⟨w.heap.size, k * 9 + 4, none⟩ (.int .i64 d.k)).setCell ⟨w.heap.size, k * 9 + 5, none⟩ (.int .i64 d.n)).setCell ⟨w.heap.size, k * 9 + 6, none⟩ (.string d.s)).setCell ⟨w.heap.size, k * 9 + 7, none⟩ (.string d.nm)).setCell ⟨w.heap.size, k * 9 + 8, none⟩ (.slice B m c)) := hS
      obtain ⟨⟨x0, g0⟩, z0⟩ := (show (∃ v, W6.cell? ⟨w.heap.size, k * 9, none⟩ = some v) ∧ W6.frozen? ⟨w.heap.size, k * 9, none⟩ = false from ⟨Option.isSome_iff_exists.1 (hthere 0 (by decide)).1, (hthere 0 (by decide)).2⟩)
      obtain ⟨⟨x1, g1⟩, z1⟩ := (show (∃ v, W6.cell? ⟨w.heap.size, k * 9 + 1, none⟩ = some v) ∧ W6.frozen? ⟨w.heap.size, k * 9 + 1, none⟩ = false from ⟨Option.isSome_iff_exists.1 (hthere 1 (by decide)).1, (hthere 1 (by decide)).2⟩)
      obtain ⟨⟨x2, g2⟩, z2⟩ := (show (∃ v, W6.cell? ⟨w.heap.size, k * 9 + 2, none⟩ = some v) ∧ W6.frozen? ⟨w.heap.size, k * 9 + 2, none⟩ = false from ⟨Option.isSome_iff_exists.1 (hthere 2 (by decide)).1, (hthere 2 (by decide)).2⟩)
      obtain ⟨⟨x3, g3⟩, z3⟩ := (show (∃ v, W6.cell? ⟨w.heap.size, k * 9 + 3, none⟩ = some v) ∧ W6.frozen? ⟨w.heap.size, k * 9 + 3, none⟩ = false from ⟨Option.isSome_iff_exists.1 (hthere 3 (by decide)).1, (hthere 3 (by decide)).2⟩)
      obtain ⟨⟨x4, g4⟩, z4⟩ := (show (∃ v, W6.cell? ⟨w.heap.size, k * 9 + 4, none⟩ = some v) ∧ W6.frozen? ⟨w.heap.size, k * 9 + 4, none⟩ = false from ⟨Option.isSome_iff_exists.1 (hthere 4 (by decide)).1, (hthere 4 (by decide)).2⟩)
      obtain ⟨⟨x5, g5⟩, z5⟩ := (show (∃ v, W6.cell? ⟨w.heap.size, k * 9 + 5, none⟩ = some v) ∧ W6.frozen? ⟨w.heap.size, k * 9 + 5, none⟩ = false from ⟨Option.isSome_iff_exists.1 (hthere 5 (by decide)).1, (hthere 5 (by decide)).2⟩)
      obtain ⟨⟨x6, g6⟩, z6⟩ := (show (∃ v, W6.cell? ⟨w.heap.size, k * 9 + 6, none⟩ = some v) ∧ W6.frozen? ⟨w.heap.size, k * 9 + 6, none⟩ = false from ⟨Option.isSome_iff_exists.1 (hthere 6 (by decide)).1, (hthere 6 (by decide)).2⟩)
      obtain ⟨⟨x7, g7⟩, z7⟩ := (show (∃ v, W6.cell? ⟨w.heap.size, k * 9 + 7, none⟩ = some v) ∧ W6.frozen? ⟨w.heap.size, k * 9 + 7, none⟩ = false from ⟨Option.isSome_iff_exists.1 (hthere 7 (by decide)).1, (hthere 7 (by decide)).2⟩)
      obtain ⟨⟨x8, g8⟩, z8⟩ := (show (∃ v, W6.cell? ⟨w.heap.size, k * 9 + 8, none⟩ = some v) ∧ W6.frozen? ⟨w.heap.size, k * 9 + 8, none⟩ = false from ⟨Option.isSome_iff_exists.1 (hthere 8 (by decide)).1, (hthere 8 (by decide)).2⟩)
      have HS := Lib.hid hS'
      have HW6 := Lib.hid hW6
      have m0 : W6.cell? ⟨B5, 0, none⟩ = some (.string f.nm) := by simp [World.cell?, h6]
      have m1 : W6.cell? ⟨B5, 1, none⟩ = some (.int .i64 f.kind) := by simp [World.cell?, h6]
      have m2 : W6.cell? ⟨B5, 2, none⟩ = some (.int .i64 f.ty) := by simp [World.cell?, h6]
      have m3 : W6.cell? ⟨B5, 3, none⟩ = some (.int .i64 d.op) := by simp [World.cell?, h6]
      have m4 : W6.cell? ⟨B5, 4, none⟩ = some (.int .i64 d.k) := by simp [World.cell?, h6]
      have m5 : W6.cell? ⟨B5, 5, none⟩ = some (.int .i64 d.n) := by simp [World.cell?, h6]
      have m6 : W6.cell? ⟨B5, 6, none⟩ = some (.string d.s) := by simp [World.cell?, h6]
      have m7 : W6.cell? ⟨B5, 7, none⟩ = some (.string d.nm) := by simp [World.cell?, h6]
      have m8 : W6.cell? ⟨B5, 8, none⟩ = some (.slice B m c) := by simp [World.cell?, h6]
      have hl2 : B5 < w2.heap.size := (Array.getElem?_eq_some_iff.1 h2).1
      have ki : (k : Int) < (fs.length : Int) := by omega
      clear hS hS' hthere hW6 h6 hb6 hi6 hi2 hb2 h2 hbw2 q0 q1 q2 q3 q4 q5 q6 q7 q8 k3 k4 k5 k6 k7 k8
      go_upto_region 6 with fail
      rw [HW6.out]
      go_wp2_with fail
      go_roundw
      case rel => exact ⟨k + 1, _, by go_num, HS.out⟩
      case measure => simp [intOf]; omega
    · have hkl : k = fs.length := by omega
      subst hkl
      have hO := hV.done
      have HO := Lib.hid hO
      clear hO hV
      go_wp2_with fail
      go_ret
      exact HO.out
end Go.Proofs.YtdlfhldboagbeaaGreatDoor.FldY
