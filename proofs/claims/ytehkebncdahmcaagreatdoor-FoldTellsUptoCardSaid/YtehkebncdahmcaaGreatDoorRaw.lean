/- Raw things in memory, and the statements' own generator of formulas: what it gives. -/
import Derived.Test.YtehkebncdahmcaaGreatDoorRawValue
import Derived.Test.YtehkebncdahmcaaGreatDoorEx
import Derived.RangeFuncBox
import Derived.Deep.RegionHeld3
import Derived.Deep.AppendLies
import Derived.Deep.RegionLaw
import Derived.OwnWalk
import Derived.Deep.RegionWith
import Derived.RegionTactic
import Derived.BigRegion
import Derived.Laws.OwnMore
import Derived.Laws.Pointers
namespace Go.Proofs.YtehkebncdahmcaaGreatDoor.RawL
open Go.RowKit
open ValM LexM NumM ExM Kit ExL RawV Within
set_option linter.unusedVariables false

/-- A slice of raw things: each has three numbers and a text. -/
def Raws (w : World) (A : Option Addr) (n c : Nat) : Prop :=
  n ≤ c ∧ c ≤ maxLen ∧ ∀ i, i < n → ∃ (a : Addr) (k x y : Int) (t : ByteArray), A = some a ∧ w.cell? (a.add (i * 4)) = some (.int .i64 k) ∧ w.cell? ⟨(a.add (i * 4)).block, (a.add (i * 4)).off + 1, none⟩ = some (.int .i64 x) ∧ w.cell? ⟨(a.add (i * 4)).block, (a.add (i * 4)).off + 2, none⟩ = some (.int .i64 y) ∧ w.cell? ⟨(a.add (i * 4)).block, (a.add (i * 4)).off + 3, none⟩ = some (.string t) ∧
    (Lit.int .i64 k).wf = true ∧ (Lit.int .i64 x).wf = true ∧ (Lit.int .i64 y).wf = true ∧ t.size ≤ maxLen
theorem Raws.keep {w w' : World} {A : Option Addr} {n c : Nat} (h : Raws w A n c) (hk : ∀ (p : Addr) (v0 v1 v2 : Value), w.cell? p = some v0 → w.cell? ⟨p.block, p.off + 2, none⟩ = some v2 → w'.heap[p.block]? = w.heap[p.block]?) : Raws w' A n c :=
  ⟨h.1, h.2.1, fun i hi => by
    obtain ⟨a, k, x, y, t, e, c0, c1, c2, c3, r⟩ := h.2.2 i hi
    have hb := hk _ _ (.bool true) _ c0 c2
    exact ⟨a, k, x, y, t, e, (World.cell?_of_block hb).trans c0, (World.cell?_of_block (a := ⟨(a.add (i * 4)).block, (a.add (i * 4)).off + 1, none⟩) hb).trans c1, (World.cell?_of_block (a := ⟨(a.add (i * 4)).block, (a.add (i * 4)).off + 2, none⟩) hb).trans c2, (World.cell?_of_block (a := ⟨(a.add (i * 4)).block, (a.add (i * 4)).off + 3, none⟩) hb).trans c3, r⟩⟩
/-- The generator: what it draws from, and how often it was asked. -/
def Gen (w : World) (G : Nat) (A : Option Addr) (n c : Nat) (at_ : Nat) : Prop := w.heap[G]? = some (.cells #[.slice A n c, .int .i64 (at_ : Int)] 62 (0, 0))
theorem Gen.cells {w : World} {G : Nat} {A : Option Addr} {n c a : Nat} (h : Gen w G A n c a) : w.cell? ⟨G, 0, none⟩ = some (.slice A n c) ∧ w.cell? ⟨G, 1, none⟩ = some (.int .i64 (a : Int)) ∧ w.frozen? ⟨G, 1, none⟩ = false := by
  unfold Gen at h
  refine ⟨?_, ?_, ?_⟩ <;> simp [World.cell?, World.frozen?, h]
theorem Gen.lt {w : World} {G : Nat} {A : Option Addr} {n c a : Nat} (h : Gen w G A n c a) : G < w.heap.size := (Array.getElem?_eq_some_iff.1 h).1
theorem Gen.below {w w' : World} {G : Nat} {A : Option Addr} {n c a : Nat} (h : Gen w G A n c a) (hb : Below w.heap.size w w') : Gen w' G A n c a := (hb.block G h.lt).trans h
theorem Gen.alloc {w : World} {G : Nat} {A : Option Addr} {n c a : Nat} (h : Gen w G A n c a) (o : Obj) : Gen (w.alloc o) G A n c a := h.below (b_new w o)
theorem Gen.none2 {w : World} {G : Nat} {A : Option Addr} {n c a : Nat} (h : Gen w G A n c a) (j : Nat) : w.cell? ⟨G, j + 2, none⟩ = none := by
  unfold Gen at h
  simp [World.cell?, h]
/-- What the generator's steps do to memory: its own block alone is written. -/
abbrev Gr (G : Nat) (w w' : World) : Prop := w.grownBy w' (some G)
theorem Gr.of_below {G : Nat} {w w' : World} (h : Below w.heap.size w w') : Gr G w w' := ⟨h.os, h.tape, h.output, h.size, fun k hk _ => h.block k hk⟩
theorem Gr.refl (G : Nat) (w : World) : Gr G w w := Gr.of_below (Below.refl _ _)
theorem Gr.trans {G : Nat} {a b c : World} (h : Gr G a b) (g : Gr G b c) : Gr G a c := ⟨g.os.trans h.os, g.tape.trans h.tape, g.output.trans h.output, Nat.le_trans h.size g.size, fun k hk hne => (g.block k (Nat.lt_of_lt_of_le hk h.size) hne).trans (h.block k hk hne)⟩
theorem Gr.raws {G : Nat} {w w' : World} {A A' : Option Addr} {n c n' c' a : Nat} (h : Gr G w w') (hg : Gen w G A' n' c' a) (r : Raws w A n c) : Raws w' A n c :=
  r.keep fun p v0 v1 v2 h0 h2 => h.block _ (cell_lt' h0) (fun e => by
    cases e
    rw [hg.none2 p.off] at h2; cases h2)
theorem Gr.is {G : Nat} {w w' : World} {A' : Option Addr} {n' c' a : Nat} (h : Gr G w w') (hg : Gen w G A' n' c' a) : ∀ (x : Ex) (d : Nd) (A : Option Addr) (n : Nat), Is w x d A n → Is w' x d A n := by
  refine Ex.ind fun d l ih => ?_
  intro d' A n hi
  rw [is_mk] at hi ⊢
  obtain ⟨h1, h2, h3, h4⟩ := hi
  refine ⟨h1, h2, h3, fun j hj => ?_⟩
  obtain ⟨a, d2, B, m, c, e, ha, hi⟩ := h4 j hj
  refine ⟨a, d2, B, m, c, e, ?_, ih _ (List.getElem_mem _) _ _ _ hi⟩
  have hb : w'.heap[(a.add (j * 6)).block]? = w.heap[(a.add (j * 6)).block]? := h.block _ ha.lt (fun e => by
    injection e with e
    have h2 := ha.2.2.1
    rw [e, hg.none2] at h2; cases h2)
  exact ha.keep fun p hp => World.cell?_of_block (by rw [hp]; exact hb)
theorem Gen.step {w : World} {G : Nat} {A : Option Addr} {n c a : Nat} (h : Gen w G A n c a) : Gen (w.setCell ⟨G, 1, none⟩ (.int .i64 ((a : Int) + 1))) G A n c (a + 1) ∧ Gr G w (w.setCell ⟨G, 1, none⟩ (.int .i64 ((a : Int) + 1))) := by
  refine ⟨?_, rfl, rfl, rfl, by simp [World.setCell], fun k _ hk => Below.heap_setCell _ _ _ k (fun e => hk (by rw [e]))⟩
  unfold Gen at h ⊢
  simp [World.setCell, Array.getElem?_modify, h]
def NextOut (G : Nat) (A : Option Addr) (n c a : Nat) (w : World) (e : Ending) (w' : World) : Prop :=
  ∃ (K X Y : Int) (T : ByteArray) (a' : Nat), e = .returned (.agg #[.int .i64 K, .int .i64 X, .int .i64 Y, .string T]) ∧ (Lit.int .i64 K).wf = true ∧ (Lit.int .i64 X).wf = true ∧ (Lit.int .i64 Y).wf = true ∧ T.size ≤ maxLen ∧ a' ≤ a + 1 ∧ Gen w' G A n c a' ∧ Gr G w w'
set_option maxHeartbeats 1000000 in
theorem next_none (G c a : Nat) (A : Option Addr) (w : World) (hg : Gen w G A 0 c a) :
    Calls Tryz.prog 29 #[.pointer (some ⟨G, 0, none⟩)] w (NextOut G A 0 c a w) := by
  obtain ⟨g0, g1, g2⟩ := hg.cells
  have gl := hg.lt
  have HG := Lib.hid hg
  clear hg
  go_enter Tryz.func29, Tryz.ntmps29
  go_wp2_with fail
  refine bodyPost_ret (v := .agg #[.int .i64 0, .int .i64 0, .int .i64 0, .string ⟨#[]⟩]) (by simp [results, Tryz.results29, go_sem]) rfl ?_
  exact ⟨0, 0, 0, ⟨#[]⟩, a, rfl, rfl, rfl, rfl, Nat.zero_le _, by omega, HG.out.below (b_new _ _), Gr.of_below (b_new _ _)⟩
set_option maxHeartbeats 1000000 in
theorem next_some (G n c a : Nat) (A : Option Addr) (w : World) (hg : Gen w G A n c a) (hr : Raws w A n c) (hn : 0 < n) (ha : a ≤ 1000000000) :
    Calls Tryz.prog 29 #[.pointer (some ⟨G, 0, none⟩)] w (NextOut G A n c a w) := by
  obtain ⟨g0, g1, g2⟩ := hg.cells
  have gl := hg.lt
  obtain ⟨j, hj⟩ : ∃ j, a % n = j := ⟨_, rfl⟩
  have hjn : j < n := by rw [← hj]; exact Nat.mod_lt _ hn
  obtain ⟨ad, K, X, Y, T, rfl, r0, r1, r2, r3, k0, k1, k2, k3⟩ := hr.2.2 j hjn
  have hn2 : n ≤ maxLen := Nat.le_trans hr.1 hr.2.1
  unfold maxLen at hn2
  have i0 : (0 : Int) ≤ (a : Int) := by omega
  have i1 : (0 : Int) < (n : Int) := by omega
  have i2 : ((n : Int) == 0) = false := beq_eq_false_iff_ne.2 (by omega)
  have i3 : ((a : Int) % (n : Int)).toNat = j := by rw [← hj, ← Int.natCast_emod, Int.toNat_natCast]
  have i4 : (0 : Int) ≤ (a : Int) % (n : Int) := Int.emod_nonneg _ (by omega)
  have i5 : (a : Int) % (n : Int) < (n : Int) := Int.emod_lt_of_pos _ i1
  have i6 : ¬ (n : Int) = 0 := by omega
  have HG := Lib.hid hg
  clear hg hr hj
  go_enter Tryz.func29, Tryz.ntmps29
  go_wp2_with fail
  have v0 : ∀ o o', ((w.alloc o).alloc o').cell? (ad.add (j * 4)) = some (.int .i64 K) := fun o o' => by rw [World.cell?_alloc_lt _ _ _ (by have := cell_lt' r0; simp; omega), World.cell?_alloc_lt _ _ _ (cell_lt' r0)]; exact r0
  have v1 : ∀ o o', ((w.alloc o).alloc o').cell? ⟨(ad.add (j * 4)).block, (ad.add (j * 4)).off + 1, none⟩ = some (.int .i64 X) := fun o o' => by rw [World.cell?_alloc_lt _ _ _ (by have := cell_lt' r1; simp; simp at this; omega), World.cell?_alloc_lt _ _ _ (cell_lt' r1)]; exact r1
  have v2 : ∀ o o', ((w.alloc o).alloc o').cell? ⟨(ad.add (j * 4)).block, (ad.add (j * 4)).off + 2, none⟩ = some (.int .i64 Y) := fun o o' => by rw [World.cell?_alloc_lt _ _ _ (by have := cell_lt' r2; simp; simp at this; omega), World.cell?_alloc_lt _ _ _ (cell_lt' r2)]; exact r2
  have v3 : ∀ o o', ((w.alloc o).alloc o').cell? ⟨(ad.add (j * 4)).block, (ad.add (j * 4)).off + 3, none⟩ = some (.string T) := fun o o' => by rw [World.cell?_alloc_lt _ _ _ (by have := cell_lt' r3; simp; simp at this; omega), World.cell?_alloc_lt _ _ _ (cell_lt' r3)]; exact r3
  have u0 : ∀ o, (w.alloc o).cell? (ad.add (j * 4)) = some (.int .i64 K) := fun o => by rw [World.cell?_alloc_lt _ _ _ (cell_lt' r0)]; exact r0
  have u1 : ∀ o, (w.alloc o).cell? ⟨(ad.add (j * 4)).block, (ad.add (j * 4)).off + 1, none⟩ = some (.int .i64 X) := fun o => by rw [World.cell?_alloc_lt _ _ _ (cell_lt' r1)]; exact r1
  have u2 : ∀ o, (w.alloc o).cell? ⟨(ad.add (j * 4)).block, (ad.add (j * 4)).off + 2, none⟩ = some (.int .i64 Y) := fun o => by rw [World.cell?_alloc_lt _ _ _ (cell_lt' r2)]; exact r2
  have u3 : ∀ o, (w.alloc o).cell? ⟨(ad.add (j * 4)).block, (ad.add (j * 4)).off + 3, none⟩ = some (.string T) := fun o => by rw [World.cell?_alloc_lt _ _ _ (cell_lt' r3)]; exact r3
  clear r0 r1 r2 r3
  go_region
  clear v0 v1 v2 v3 u0 u1 u2 u3
  have d0 : (0 : Int) ≤ (a : Int) / (n : Int) := Int.ediv_nonneg i0 (by omega)
  have d1 : (a : Int) / (n : Int) ≤ 1000000000 := Int.le_trans (Int.ediv_le_self _ i0) (by omega)
  go_wp2_with fail
  go_region
  go_wp2_with fail
  refine bodyPost_ret (v := .agg #[.int .i64 K, .int .i64 (wrap64 (X + (a : Int) / (n : Int))), .int .i64 Y, .string T]) (by simp [results, Tryz.results29, go_sem]) rfl ?_
  have hs := Gen.step HG.out
  refine ⟨K, _, Y, T, a + 1, rfl, k0, wrap64_wf _, k2, k3, Nat.le_refl _, ?_, ?_⟩
  · exact ((hs.1.alloc _).alloc _).below (b_drew (b_drew (Below.refl _ _)))
  · exact hs.2.trans (Gr.of_below (b_drew (b_drew (b_more (b_new _ _) _))))
theorem next_any (G n c a : Nat) (A : Option Addr) (w : World) (hg : Gen w G A n c a) (hr : Raws w A n c) (ha : a ≤ 1000000000) :
    Calls Tryz.prog 29 #[.pointer (some ⟨G, 0, none⟩)] w (NextOut G A n c a w) := by
  rcases Nat.eq_zero_or_pos n with h | h
  · subst h; exact next_none G c a A w hg
  · exact next_some G n c a A w hg hr h ha
end Go.Proofs.YtehkebncdahmcaaGreatDoor.RawL
