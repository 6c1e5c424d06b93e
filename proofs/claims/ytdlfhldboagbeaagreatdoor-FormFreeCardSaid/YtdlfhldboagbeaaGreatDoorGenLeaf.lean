/- Raw things in memory, and the statements' own generator of formulas: what it gives. The statements' own generator of formulas: constants and leaves. -/
import Derived.Test.YtdlfhldboagbeaaGreatDoorRawValue
import Derived.Test.YtdlfhldboagbeaaGreatDoorEx
import Derived.RangeFuncBox
import Derived.Deep.RegionHeld3
import Derived.Deep.AppendLies
import Derived.Deep.RegionLaw
import Derived.OwnWalk
import Derived.Deep.RegionWith
import Derived.RegionTactic
import Derived.BigRegion
import Derived.Laws.OwnMore
import Derived.Laws.Pointers
namespace Go.Proofs.YtdlfhldboagbeaaGreatDoor.RawL
open Go.RowKit
open ValM LexM NumM ExM Kit ExL RawV Within
set_option linter.unusedVariables false

/-- A slice of raw things: each has three numbers and a text. -/
def Raws (w : World) (A : Option Addr) (n c : Nat) : Prop :=
  n ≤ c ∧ c ≤ maxLen ∧ ∀ i, i < n → ∃ (a : Addr) (k x y : Int) (t : ByteArray), A = some a ∧ w.cell? (a.add (i * 4)) = some (.int .i64 k) ∧ w.cell? ⟨(a.add (i * 4)).block, (a.add (i * 4)).off + 1, none⟩ = some (.int .i64 x) ∧ w.cell? ⟨(a.add (i * 4)).block, (a.add (i * 4)).off + 2, none⟩ = some (.int .i64 y) ∧ w.cell? ⟨(a.add (i * 4)).block, (a.add (i * 4)).off + 3, none⟩ = some (.string t) ∧
    (Lit.int .i64 k).wf = true ∧ (Lit.int .i64 x).wf = true ∧ (Lit.int .i64 y).wf = true ∧ t.size ≤ maxLen
theorem Raws.keep {w w' : World} {A : Option Addr} {n c : Nat} (h : Raws w A n c) (hk : ∀ (p : Addr) (v0 v1 v2 : Value), w.cell? p = some v0 → w.cell? ⟨p.block, p.off + 2, none⟩ = some v2 → w'.heap[p.block]? = w.heap[p.block]?) : Raws w' A n c :=
  ⟨h.1, h.2.1, fun i hi => by
    obtain ⟨a, k, x, y, t, e, c0, c1, c2, c3, r⟩ := h.2.2 i hi
    have hb := hk _ _ (.bool true) _ c0 c2
    exact ⟨a, k, x, y, t, e, (World.cell?_of_block hb).trans c0, (World.cell?_of_block (a := ⟨(a.add (i * 4)).block, (a.add (i * 4)).off + 1, none⟩) hb).trans c1, (World.cell?_of_block (a := ⟨(a.add (i * 4)).block, (a.add (i * 4)).off + 2, none⟩) hb).trans c2, (World.cell?_of_block (a := ⟨(a.add (i * 4)).block, (a.add (i * 4)).off + 3, none⟩) hb).trans c3, r⟩⟩
/-- The generator: what it draws from, and how often it was asked. -/
def Gen (w : World) (G : Nat) (A : Option Addr) (n c : Nat) (at_ : Nat) : Prop := w.heap[G]? = some (.cells #[.slice A n c, .int .i64 (at_ : Int)] 70 (0, 0))
theorem Gen.cells {w : World} {G : Nat} {A : Option Addr} {n c a : Nat} (h : Gen w G A n c a) : w.cell? ⟨G, 0, none⟩ = some (.slice A n c) ∧ w.cell? ⟨G, 1, none⟩ = some (.int .i64 (a : Int)) ∧ w.frozen? ⟨G, 1, none⟩ = false := by
  unfold Gen at h
  refine ⟨?_, ?_, ?_⟩ <;> simp [World.cell?, World.frozen?, h]
theorem Gen.lt {w : World} {G : Nat} {A : Option Addr} {n c a : Nat} (h : Gen w G A n c a) : G < w.heap.size := (Array.getElem?_eq_some_iff.1 h).1
theorem Gen.below {w w' : World} {G : Nat} {A : Option Addr} {n c a : Nat} (h : Gen w G A n c a) (hb : Below w.heap.size w w') : Gen w' G A n c a := (hb.block G h.lt).trans h
theorem Gen.alloc {w : World} {G : Nat} {A : Option Addr} {n c a : Nat} (h : Gen w G A n c a) (o : Obj) : Gen (w.alloc o) G A n c a := h.below (b_new w o)
theorem Gen.none2 {w : World} {G : Nat} {A : Option Addr} {n c a : Nat} (h : Gen w G A n c a) (j : Nat) : w.cell? ⟨G, j + 2, none⟩ = none := by
  unfold Gen at h
  simp [World.cell?, h]
/-- What the generator's steps do to memory: its own block alone is written. -/
abbrev Gr (G : Nat) (w w' : World) : Prop := w.grownBy w' (some G)
theorem Gr.of_below {G : Nat} {w w' : World} (h : Below w.heap.size w w') : Gr G w w' := ⟨h.os, h.tape, h.output, h.size, fun k hk _ => h.block k hk⟩
theorem Gr.refl (G : Nat) (w : World) : Gr G w w := Gr.of_below (Below.refl _ _)
theorem Gr.trans {G : Nat} {a b c : World} (h : Gr G a b) (g : Gr G b c) : Gr G a c := ⟨g.os.trans h.os, g.tape.trans h.tape, g.output.trans h.output, Nat.le_trans h.size g.size, fun k hk hne => (g.block k (Nat.lt_of_lt_of_le hk h.size) hne).trans (h.block k hk hne)⟩
theorem Gr.raws {G : Nat} {w w' : World} {A A' : Option Addr} {n c n' c' a : Nat} (h : Gr G w w') (hg : Gen w G A' n' c' a) (r : Raws w A n c) : Raws w' A n c :=
  r.keep fun p v0 v1 v2 h0 h2 => h.block _ (cell_lt' h0) (fun e => by
    cases e
    rw [hg.none2 p.off] at h2; cases h2)
theorem Gr.is {G : Nat} {w w' : World} {A' : Option Addr} {n' c' a : Nat} (h : Gr G w w') (hg : Gen w G A' n' c' a) : ∀ (x : Ex) (d : Nd) (A : Option Addr) (n : Nat), Is w x d A n → Is w' x d A n := by
  refine Ex.ind fun d l ih => ?_
  intro d' A n hi
  rw [is_mk] at hi ⊢
  obtain ⟨h1, h2, h3, h4⟩ := hi
  refine ⟨h1, h2, h3, fun j hj => ?_⟩
  obtain ⟨a, d2, B, m, c, e, ha, hi⟩ := h4 j hj
  refine ⟨a, d2, B, m, c, e, ?_, ih _ (List.getElem_mem _) _ _ _ hi⟩
  have hb : w'.heap[(a.add (j * 6)).block]? = w.heap[(a.add (j * 6)).block]? := h.block _ ha.lt (fun e => by
    injection e with e
    have h2 := ha.2.2.1
    rw [e, hg.none2] at h2; cases h2)
  exact ha.keep fun p hp => World.cell?_of_block (by rw [hp]; exact hb)
theorem Gen.step {w : World} {G : Nat} {A : Option Addr} {n c a : Nat} (h : Gen w G A n c a) : Gen (w.setCell ⟨G, 1, none⟩ (.int .i64 ((a : Int) + 1))) G A n c (a + 1) ∧ Gr G w (w.setCell ⟨G, 1, none⟩ (.int .i64 ((a : Int) + 1))) := by
  refine ⟨?_, rfl, rfl, rfl, by simp [World.setCell], fun k _ hk => Below.heap_setCell _ _ _ k (fun e => hk (by rw [e]))⟩
  unfold Gen at h ⊢
  simp [World.setCell, Array.getElem?_modify, h]
def NextOut (G : Nat) (A : Option Addr) (n c a : Nat) (w : World) (e : Ending) (w' : World) : Prop :=
  ∃ (K X Y : Int) (T : ByteArray) (a' : Nat), e = .returned (.agg #[.int .i64 K, .int .i64 X, .int .i64 Y, .string T]) ∧ (Lit.int .i64 K).wf = true ∧ (Lit.int .i64 X).wf = true ∧ (Lit.int .i64 Y).wf = true ∧ T.size ≤ maxLen ∧ a' ≤ a + 1 ∧ Gen w' G A n c a' ∧ Gr G w w'
set_option maxHeartbeats 1000000 in
theorem next_none (G c a : Nat) (A : Option Addr) (w : World) (hg : Gen w G A 0 c a) :
    Calls Tryz.prog 36 #[.pointer (some ⟨G, 0, none⟩)] w (NextOut G A 0 c a w) := by
  obtain ⟨g0, g1, g2⟩ := hg.cells
  have gl := hg.lt
  have HG := Lib.hid hg
  clear hg
  go_enter Tryz.func36, Tryz.ntmps36
  go_wp2_with fail
  refine bodyPost_ret (v := .agg #[.int .i64 0, .int .i64 0, .int .i64 0, .string ⟨#[]⟩]) (by simp [results, Tryz.results36, go_sem]) rfl ?_
  exact ⟨0, 0, 0, ⟨#[]⟩, a, rfl, rfl, rfl, rfl, Nat.zero_le _, by omega, HG.out.below (b_new _ _), Gr.of_below (b_new _ _)⟩
set_option maxHeartbeats 1000000 in
theorem next_some (G n c a : Nat) (A : Option Addr) (w : World) (hg : Gen w G A n c a) (hr : Raws w A n c) (hn : 0 < n) (ha : a ≤ 1000000000) :
    Calls Tryz.prog 36 #[.pointer (some ⟨G, 0, none⟩)] w (NextOut G A n c a w) := by
  obtain ⟨g0, g1, g2⟩ := hg.cells
  have gl := hg.lt
  obtain ⟨j, hj⟩ : ∃ j, a % n = j := ⟨_, rfl⟩
  have hjn : j < n := by rw [← hj]; exact Nat.mod_lt _ hn
  obtain ⟨ad, K, X, Y, T, rfl, r0, r1, r2, r3, k0, k1, k2, k3⟩ := hr.2.2 j hjn
  have hn2 : n ≤ maxLen := Nat.le_trans hr.1 hr.2.1
  unfold maxLen at hn2
  have i0 : (0 : Int) ≤ (a : Int) := by omega
  have i1 : (0 : Int) < (n : Int) := by omega
  have i2 : ((n : Int) == 0) = false := beq_eq_false_iff_ne.2 (by omega)
  have i3 : ((a : Int) % (n : Int)).toNat = j := by rw [← hj, ← Int.natCast_emod, Int.toNat_natCast]
  have i4 : (0 : Int) ≤ (a : Int) % (n : Int) := Int.emod_nonneg _ (by omega)
  have i5 : (a : Int) % (n : Int) < (n : Int) := Int.emod_lt_of_pos _ i1
  have i6 : ¬ (n : Int) = 0 := by omega
  have HG := Lib.hid hg
  clear hg hr hj
  go_enter Tryz.func36, Tryz.ntmps36
  go_wp2_with fail
  have v0 : ∀ o o', ((w.alloc o).alloc o').cell? (ad.add (j * 4)) = some (.int .i64 K) := fun o o' => by rw [World.cell?_alloc_lt _ _ _ (by have := cell_lt' r0; simp; omega), World.cell?_alloc_lt _ _ _ (cell_lt' r0)]; exact r0
  have v1 : ∀ o o', ((w.alloc o).alloc o').cell? ⟨(ad.add (j * 4)).block, (ad.add (j * 4)).off + 1, none⟩ = some (.int .i64 X) := fun o o' => by rw [World.cell?_alloc_lt _ _ _ (by have := cell_lt' r1; simp; simp at this; omega), World.cell?_alloc_lt _ _ _ (cell_lt' r1)]; exact r1
  have v2 : ∀ o o', ((w.alloc o).alloc o').cell? ⟨(ad.add (j * 4)).block, (ad.add (j * 4)).off + 2, none⟩ = some (.int .i64 Y) := fun o o' => by rw [World.cell?_alloc_lt _ _ _ (by have := cell_lt' r2; simp; simp at this; omega), World.cell?_alloc_lt _ _ _ (cell_lt' r2)]; exact r2
  have v3 : ∀ o o', ((w.alloc o).alloc o').cell? ⟨(ad.add (j * 4)).block, (ad.add (j * 4)).off + 3, none⟩ = some (.string T) := fun o o' => by rw [World.cell?_alloc_lt _ _ _ (by have := cell_lt' r3; simp; simp at this; omega), World.cell?_alloc_lt _ _ _ (cell_lt' r3)]; exact r3
  have u0 : ∀ o, (w.alloc o).cell? (ad.add (j * 4)) = some (.int .i64 K) := fun o => by rw [World.cell?_alloc_lt _ _ _ (cell_lt' r0)]; exact r0
  have u1 : ∀ o, (w.alloc o).cell? ⟨(ad.add (j * 4)).block, (ad.add (j * 4)).off + 1, none⟩ = some (.int .i64 X) := fun o => by rw [World.cell?_alloc_lt _ _ _ (cell_lt' r1)]; exact r1
  have u2 : ∀ o, (w.alloc o).cell? ⟨(ad.add (j * 4)).block, (ad.add (j * 4)).off + 2, none⟩ = some (.int .i64 Y) := fun o => by rw [World.cell?_alloc_lt _ _ _ (cell_lt' r2)]; exact r2
  have u3 : ∀ o, (w.alloc o).cell? ⟨(ad.add (j * 4)).block, (ad.add (j * 4)).off + 3, none⟩ = some (.string T) := fun o => by rw [World.cell?_alloc_lt _ _ _ (cell_lt' r3)]; exact r3
  clear r0 r1 r2 r3
  go_region
  clear v0 v1 v2 v3 u0 u1 u2 u3
  have d0 : (0 : Int) ≤ (a : Int) / (n : Int) := Int.ediv_nonneg i0 (by omega)
  have d1 : (a : Int) / (n : Int) ≤ 1000000000 := Int.le_trans (Int.ediv_le_self _ i0) (by omega)
  go_wp2_with fail
  go_region
  go_wp2_with fail
  refine bodyPost_ret (v := .agg #[.int .i64 K, .int .i64 (wrap64 (X + (a : Int) / (n : Int))), .int .i64 Y, .string T]) (by simp [results, Tryz.results36, go_sem]) rfl ?_
  have hs := Gen.step HG.out
  refine ⟨K, _, Y, T, a + 1, rfl, k0, wrap64_wf _, k2, k3, Nat.le_refl _, ?_, ?_⟩
  · exact ((hs.1.alloc _).alloc _).below (b_drew (b_drew (Below.refl _ _)))
  · exact hs.2.trans (Gr.of_below (b_drew (b_drew (b_more (b_new _ _) _))))
theorem next_any (G n c a : Nat) (A : Option Addr) (w : World) (hg : Gen w G A n c a) (hr : Raws w A n c) (ha : a ≤ 1000000000) :
    Calls Tryz.prog 36 #[.pointer (some ⟨G, 0, none⟩)] w (NextOut G A n c a w) := by
  rcases Nat.eq_zero_or_pos n with h | h
  · subst h; exact next_none G c a A w hg
  · exact next_some G n c a A w hg hr h ha
end Go.Proofs.YtdlfhldboagbeaaGreatDoor.RawL
namespace Go.Proofs.YtdlfhldboagbeaaGreatDoor.GenL
open Go.RowKit
open ValM LexM NumM ExM Kit ExL RawV Within RawL
set_option linter.unusedVariables false

theorem own_below {w w1 : World} {base : Nat} {e : TypeId} {size : Nat} {v : Value} {n : Nat} {xs : List Value} (h : w.ownsRow base e size v n xs) (hb : Below w.heap.size w w1) : w1.ownsRow base e size v n xs :=
  h.kept (row := none) ⟨hb.os, hb.tape, hb.output, hb.size, fun k hk _ => hb.block k hk⟩ (by cases hv : v.ownBlock <;> simp)
theorem own_slice {w : World} {base : Nat} {e : TypeId} {size : Nat} {v : Value} {n : Nat} {xs : List Value} (h : w.ownsRow base e size v n xs) : ∃ A c, v = .slice A n c := by
  rcases h.2 with ⟨h1, h2⟩ | ⟨g, cap, cur, h1, _⟩
  · exact ⟨none, 0, by rw [h2]; exact h1⟩
  · exact ⟨some ⟨g, 0, none⟩, cap, h1⟩
theorem own_form {w : World} {base : Nat} {e : TypeId} {size : Nat} {v : Value} {n : Nat} {xs : List Value} (h : w.ownsRow base e size v n xs) (hn : 0 < n) :
    ∃ g cap, v = .slice (some ⟨g, 0, none⟩) n cap ∧ base ≤ g ∧ g < w.heap.size ∧ n ≤ cap ∧ cap ≤ maxLen ∧ ∀ j, j < n * size → w.cell? ⟨g, j, none⟩ = xs[j]? := by
  rcases h.2 with ⟨_, h2⟩ | ⟨g, cap, cur, h1, h2, h3, h4, h5, _⟩
  · omega
  · subst h1
    have hl := h.lt g rfl
    exact ⟨g, cap, rfl, h2, hl.2, h4, h5, fun j hj => h.cellAt j hj⟩

theorem b_set {w w1 : World} {p : Addr} {v : Value} (h : Below w.heap.size w w1) (hp : w.heap.size ≤ p.block) : Below w.heap.size w (w1.setCell p v) := h.setCell hp v
/-! ### constant -/
def ConstOut (k : Int) (w : World) (e : Ending) (w' : World) : Prop :=
  ∃ (n : Int) (s : ByteArray), e = .returned (.agg #[.int .i64 1, .int .i64 (vK k), .int .i64 n, .string s, .string ⟨#[]⟩, .slice none 0 0]) ∧ knownB (vK k) n s.data.toList = true ∧ (vK k = 1 → 0 ≤ n) ∧ Below w.heap.size w w'
theorem known_int {n : Int} (h : okN n = true) : knownB 1 n [] = true := by
  unfold knownB valE numE; rw [if_pos rfl, h]; rfl
set_option maxHeartbeats 1000000 in
theorem constant_any (k rk ra rb : Int) (t : ByteArray) (w : World) (h1 : (Lit.int .i64 rk).wf = true) (h2 : (Lit.int .i64 ra).wf = true) (h3 : t.size ≤ maxLen) :
    Calls Tryz.prog 95 #[.int .i64 k, .agg #[.int .i64 rk, .int .i64 ra, .int .i64 rb, .string t]] w (ConstOut k w) := by
  have hc := fun W => value_any k rk ra rb t W h1 h2 h3
  have hk := v_known k rk ra t
  by_cases e1 : k = 1
  · subst e1
    obtain ⟨n, hn⟩ : ∃ n, vN 1 rk ra = n := ⟨_, rfl⟩
    have hok : okN n = true := by
      have h := hk
      rw [hn, show vK 1 = 1 from rfl] at h
      unfold knownB valE numE at h
      rw [if_pos rfl] at h
      cases hb : okN n
      · rw [hb] at h; simp [isT] at h
      · rfl
    obtain ⟨b1, b2⟩ := okN_iff.1 hok
    rw [hn, show vK 1 = 1 from rfl, show vS 1 t = ⟨#[]⟩ from rfl] at hc
    have HC := Lib.hid hc
    have HO := Lib.hid hok
    clear hc hk hn hok
    go_enter Tryz.func95, Tryz.ntmps95
    go_wp2_with fail
    refine (HC.out _).mono ?_; rintro e w1 ⟨rfl, hb1⟩
    have hz : w.heap.size + 1 < w1.heap.size := by have := hb1.size; simp at this; omega
    obtain ⟨c1, d1⟩ := bcell hb1
    have hB := b_then (b_then hb1)
    by_cases hneg : n < -n
    · have t1 : n < -n := hneg
      go_wp2_with fail
      refine bodyPost_ret (v := .agg #[.int .i64 1, .int .i64 1, .int .i64 (-n), .string ⟨#[]⟩, .string ⟨#[]⟩, .slice none 0 0]) (by simp [results, Tryz.results95, go_sem, c1, hz]) rfl ?_
      refine ⟨-n, ⟨#[]⟩, rfl, known_int (okN_iff.2 ⟨by omega, by omega⟩), fun _ => by omega, ?_⟩
      repeat' (first | (with_reducible exact hB) | (with_reducible refine b_more ?_ _) | (with_reducible refine b_set ?_ ?_) | (dsimp only; omega))
    · have t1 : ¬ n < -n := hneg
      go_wp2_with fail
      refine bodyPost_ret (v := .agg #[.int .i64 1, .int .i64 1, .int .i64 n, .string ⟨#[]⟩, .string ⟨#[]⟩, .slice none 0 0]) (by simp [results, Tryz.results95, go_sem, c1, hz]) rfl ?_
      refine ⟨n, ⟨#[]⟩, rfl, known_int HO.out, fun _ => by omega, ?_⟩
      repeat' (first | (with_reducible exact hB) | (with_reducible refine b_more ?_ _) | (with_reducible refine b_set ?_ ?_) | (dsimp only; omega))
  · have t1 : (k == 1) = false := beq_eq_false_iff_ne.2 e1
    have hk1 : vK k ≠ 1 := by unfold vK; rw [if_neg e1]; split <;> decide
    obtain ⟨kk, hkk⟩ : ∃ a, vK k = a := ⟨_, rfl⟩
    obtain ⟨n, hn⟩ : ∃ a, vN k rk ra = a := ⟨_, rfl⟩
    obtain ⟨s, hs⟩ : ∃ a, vS k t = a := ⟨_, rfl⟩
    rw [hkk, hn, hs] at hc hk
    have HC := Lib.hid hc
    have HK := Lib.hid hk
    have HKK := Lib.hid hkk
    have H1 := Lib.hid hk1
    clear hc hk hn hs hkk hk1 e1
    go_enter Tryz.func95, Tryz.ntmps95
    go_wp2_with fail
    refine (HC.out _).mono ?_; rintro e w1 ⟨rfl, hb1⟩
    have hz : w.heap.size + 1 < w1.heap.size := by have := hb1.size; simp at this; omega
    obtain ⟨c1, d1⟩ := bcell hb1
    have hB := b_then (b_then hb1)
    go_wp2_with fail
    refine bodyPost_ret (v := .agg #[.int .i64 1, .int .i64 kk, .int .i64 n, .string s, .string ⟨#[]⟩, .slice none 0 0]) (by simp [results, Tryz.results95, go_sem, c1, hz]) rfl ?_
    refine ⟨n, s, by rw [HKK.out], by rw [HKK.out]; exact HK.out, fun h => absurd (HKK.out.symm ▸ h) H1.out, ?_⟩
    repeat' (first | (with_reducible exact hB) | (with_reducible refine b_more ?_ _) | (with_reducible refine b_set ?_ ?_) | (dsimp only; omega))
/-! ### fields in memory -/
structure Fd where
  nm : ByteArray
  kind : Int
  ty : Int
  d : Nd
  A : Option Addr
  n : Nat
  c : Nat
def FdAt (w : World) (p : Addr) (f : Fd) : Prop :=
  w.cell? p = some (.string f.nm) ∧ w.cell? ⟨p.block, p.off + 1, none⟩ = some (.int .i64 f.kind) ∧ w.cell? ⟨p.block, p.off + 2, none⟩ = some (.int .i64 f.ty) ∧ w.cell? ⟨p.block, p.off + 3, none⟩ = some (.int .i64 f.d.op) ∧ w.cell? ⟨p.block, p.off + 4, none⟩ = some (.int .i64 f.d.k) ∧ w.cell? ⟨p.block, p.off + 5, none⟩ = some (.int .i64 f.d.n) ∧ w.cell? ⟨p.block, p.off + 6, none⟩ = some (.string f.d.s) ∧ w.cell? ⟨p.block, p.off + 7, none⟩ = some (.string f.d.nm) ∧ w.cell? ⟨p.block, p.off + 8, none⟩ = some (.slice f.A f.n f.c)
theorem FdAt.of_block {w w' : World} {p : Addr} {f : Fd} (h : FdAt w p f) (hb : w'.heap[p.block]? = w.heap[p.block]?) : FdAt w' p f := by
  obtain ⟨h0, h1, h2, h3, h4, h5, h6, h7, h8⟩ := h
  exact ⟨(World.cell?_of_block hb).trans h0, (World.cell?_of_block (a := ⟨p.block, p.off + 1, none⟩) hb).trans h1, (World.cell?_of_block (a := ⟨p.block, p.off + 2, none⟩) hb).trans h2, (World.cell?_of_block (a := ⟨p.block, p.off + 3, none⟩) hb).trans h3, (World.cell?_of_block (a := ⟨p.block, p.off + 4, none⟩) hb).trans h4, (World.cell?_of_block (a := ⟨p.block, p.off + 5, none⟩) hb).trans h5, (World.cell?_of_block (a := ⟨p.block, p.off + 6, none⟩) hb).trans h6, (World.cell?_of_block (a := ⟨p.block, p.off + 7, none⟩) hb).trans h7, (World.cell?_of_block (a := ⟨p.block, p.off + 8, none⟩) hb).trans h8⟩
theorem FdAt.lt {w : World} {p : Addr} {f : Fd} (h : FdAt w p f) : p.block < w.heap.size := cell_lt' h.1
def Flds (w : World) (A : Option Addr) (fs : List Fd) : Prop := ∀ (i : Nat) (h : i < fs.length), ∃ a, A = some a ∧ FdAt w (a.add (i * 9)) fs[i]
theorem Flds.below {w w' : World} {A : Option Addr} {fs : List Fd} (h : Flds w A fs) (hb : Below w.heap.size w w') : Flds w' A fs := fun i hi => by
  obtain ⟨a, e, hf⟩ := h i hi
  exact ⟨a, e, hf.of_block (hb.block _ hf.lt)⟩
theorem Gr.flds {G : Nat} {w w' : World} {A A' : Option Addr} {fs : List Fd} {n' c' a : Nat} (h : Gr G w w') (hg : Gen w G A' n' c' a) (hf : Flds w A fs) : Flds w' A fs := fun i hi => by
  obtain ⟨ad, e, hf⟩ := hf i hi
  refine ⟨ad, e, hf.of_block (h.block _ hf.lt (fun e => ?_))⟩
  injection e with e
  have h2 := hf.2.2.1
  rw [e, hg.none2] at h2; cases h2

theorem Gen.far {w : World} {G : Nat} {A : Option Addr} {n c a : Nat} {p : Addr} (h : Gen w G A n c a) (hp : G ≠ p.block) (v : Value) : Gen (w.setCell p v) G A n c a := (Below.heap_setCell w p v G hp).trans h
theorem Gr.set {G : Nat} {w w1 : World} {p : Addr} {v : Value} (h : Gr G w w1) (hp : w.heap.size ≤ p.block) : Gr G w (w1.setCell p v) :=
  ⟨h.os, h.tape, h.output, by simp [World.setCell]; exact h.size, fun k hk hne => (Below.heap_setCell w1 p v k (by omega)).trans (h.block k hk hne)⟩
/-! ### leaf -/
/-- A leaf of a type: a constant, or one of the fields of that type. -/
def LeafD (fs : List Fd) (kind : Int) (d : Nd) : Prop :=
  (d.op = 1 ∧ d.nm = ⟨#[]⟩ ∧ d.k = vK kind ∧ knownB d.k d.n d.s.data.toList = true ∧ (d.k = 1 → 0 ≤ d.n)) ∨
  (d.op = 2 ∧ d.k = 0 ∧ d.n = 0 ∧ d.s = ⟨#[]⟩ ∧ ∃ f ∈ fs, f.nm = d.nm ∧ f.ty = kind)
def LeafOut (G : Nat) (A : Option Addr) (n c a : Nat) (fs : List Fd) (kind : Int) (w : World) (e : Ending) (w' : World) : Prop :=
  ∃ d : Nd, e = .returned (.agg #[.int .i64 d.op, .int .i64 d.k, .int .i64 d.n, .string d.s, .string d.nm, .slice none 0 0]) ∧ LeafD fs kind d ∧ (∃ a', a' ≤ a + 1 ∧ Gen w' G A n c a') ∧ Gr G w w'
structure LInv (W0 : World) (fs : List Fd) (kind : Int) (k : Nat) (names : List ByteArray) (v : Value) (wr : World) : Prop where
  le : k ≤ fs.length
  own : wr.ownsRow W0.heap.size 9 1 v names.length (names.map Value.string)
  few : names.length ≤ k
  all : ∀ x ∈ names, ∃ f ∈ fs, f.nm = x ∧ f.ty = kind
  below : Below W0.heap.size W0 wr
theorem infoStr : (Tryz.prog.info? 9).map (fun i => (i.zero, i.size, i.bytes)) = some (some (.string ⟨#[]⟩), 1, 16) := by kernel_rfl
theorem LInv.step {W0 wr w3 : World} {fs : List Fd} {kind : Int} {k : Nat} {names : List ByteArray} {v v' : Value} {o1 o2 : Obj} (h : LInv W0 fs kind k names v wr) (hk : k < fs.length) (hty : fs[k].ty = kind)
    (ho : w3.ownsRow W0.heap.size 9 1 v' (names.length + 1) (names.map Value.string ++ [.string fs[k].nm])) (hg : ((wr.alloc o1).alloc o2).grownBy w3 v.ownBlock) : LInv W0 fs kind (k + 1) (names ++ [fs[k].nm]) v' w3 := by
  have hs := h.below.size
  refine ⟨hk, by simpa using ho, by have := h.few; simp; omega, fun x hx => ?_, ((h.below.alloc hs _).alloc (by simp; omega) _).grown hg (by simp; omega) (fun g hg => (h.own.lt g hg).1)⟩
  rcases List.mem_append.1 hx with hx | hx
  · exact h.all x hx
  · simp at hx; exact ⟨fs[k], List.getElem_mem _, hx.symm, hty⟩
theorem LInv.skip {W0 wr : World} {fs : List Fd} {kind : Int} {k : Nat} {names : List ByteArray} {v : Value} {o1 : Obj} (h : LInv W0 fs kind k names v wr) (hk : k < fs.length) : LInv W0 fs kind (k + 1) names v (wr.alloc o1) :=
  ⟨hk, h.own.alloc o1, by have := h.few; omega, h.all, h.below.alloc h.below.size _⟩

set_option maxHeartbeats 2000000 in
set_option maxRecDepth 100000 in
theorem leaf_any (G n c a fc : Nat) (A FA : Option Addr) (fs : List Fd) (kind : Int) (w : World) (hg : Gen w G A n c a) (hr : Raws w A n c) (hf : Flds w FA fs) (hfn : fs.length ≤ 1000000) (ha : a ≤ 1000000000) :
    Calls Tryz.prog 70 #[.pointer (some ⟨G, 0, none⟩), .int .i64 kind, .slice FA fs.length fc] w (LeafOut G A n c a fs kind w) := by
  obtain ⟨i0, hi, hz0, hz1, hz2⟩ := info_parts infoStr
  have gl := hg.lt
  have hne : w.heap.size ≠ G := by omega
  have hb0 := b_new w (.cells #[.int .i64 0, .int .i64 0, .int .i64 0, .string ⟨#[]⟩, .string ⟨#[]⟩, .slice none 0 0] 48)
  have hg1 := hg.below hb0
  have c1 := next_any G n c a A _ hg1 (Gr.raws (Gr.of_below hb0) hg hr) ha
  have hf1 := hf.below hb0
  have C1 := Lib.hid c1
  have HG := Lib.hid hg1
  have HF := Lib.hid hf1
  have HNE := Lib.hid hne
  clear c1 hg hg1 hr hf hf1 hb0 hne
  go_enter Tryz.func70, Tryz.ntmps70
  go_wp2_with fail
  refine C1.out.mono ?_; rintro e w1 ⟨K, X, Y, T, a', rfl, k0, k1, k2, k3, ha', hg2, hgr⟩
  obtain ⟨W0, hW0⟩ : ∃ W0, w1.alloc (.cells #[.int .i64 K, .int .i64 X, .int .i64 Y, .string T] 72) = W0 := ⟨_, rfl⟩
  have hr0 : w1.heap[w.heap.size]? = some (.cells #[.int .i64 0, .int .i64 0, .int .i64 0, .string ⟨#[]⟩, .string ⟨#[]⟩, .slice none 0 0] 48 (0, 0)) :=
    (hgr.block w.heap.size (by simp) (fun e => HNE.out (by injection e))).trans (World.alloc_heap_new w _)
  have hf2 : Flds W0 FA fs := by rw [← hW0]; exact (Gr.flds hgr HG.out HF.out).below (b_new _ _)
  have hg3 : Gen W0 G A n c a' := by rw [← hW0]; exact hg2.alloc _
  have hgr2 : Gr G w W0 := by rw [← hW0]; exact (Gr.of_below (b_new w _)).trans (hgr.trans (Gr.of_below (b_new _ _)))
  have hr1 : W0.heap[w.heap.size]? = some (.cells #[.int .i64 0, .int .i64 0, .int .i64 0, .string ⟨#[]⟩, .string ⟨#[]⟩, .slice none 0 0] 48 (0, 0)) := by
    rw [← hW0]; exact ((b_new w1 _).block _ (Array.getElem?_eq_some_iff.1 hr0).1).trans hr0
  have hr2 : W0.heap[w1.heap.size]? = some (.cells #[.int .i64 K, .int .i64 X, .int .i64 Y, .string T] 72 (0, 0)) := by rw [← hW0]; exact World.alloc_heap_new w1 _
  have hI0 : LInv W0 fs kind 0 [] (.slice none 0 0) W0 := ⟨Nat.zero_le _, World.ownsRow_nil _ _ _ _, Nat.le_refl _, fun x hx => by simp at hx, Below.refl _ _⟩
  have HW0 := Lib.hid hW0
  have HF2 := Lib.hid hf2
  have HG3 := Lib.hid hg3
  have HGR := Lib.hid hgr2
  have HR1 := Lib.hid hr1
  have HR2 := Lib.hid hr2
  have HI0 := Lib.hid hI0
  clear hr0 hf2 hg3 hgr2 hr1 hr2 hI0 hg2 hgr hW0 HG HF
  go_wp2_with fail
  rw [HW0.out]
  go_loopw [8, 15] (fun v i wr => ∃ (k : Nat) (names : List ByteArray), i = .int .i64 k ∧ LInv W0 fs kind k names v wr) (fun _ i _ => fs.length - (intOf i).toNat)
  case atStart => exact ⟨0, [], rfl, HI0.out⟩
  case round =>
    obtain ⟨k, names, rfl, hI⟩ := hrel
    have hle := hI.le
    have hfew := hI.few
    have HI := Lib.hid hI
    by_cases hlt : k < fs.length
    · obtain ⟨ad, rfl, hat⟩ := HF2.out k hlt
      obtain ⟨q0, q1, q2, q3, q4, q5, q6, q7, q8⟩ := hat.of_block (hI.below.block _ hat.lt)
      obtain ⟨f, hfk⟩ : ∃ f, fs[k] = f := ⟨_, rfl⟩
      rw [hfk] at q0 q1 q2 q3 q4 q5 q6 q7 q8
      have hown := (hI.own.alloc (.cells #[.string f.nm, .int .i64 f.kind, .int .i64 f.ty, .int .i64 f.d.op, .int .i64 f.d.k, .int .i64 f.d.n, .string f.d.s, .string f.d.nm, .slice f.A f.n f.c] 50)).alloc (.cells #[.string f.nm] 9)
      have hs := hI.below.size
      have HFK := Lib.hid hfk
      clear hI hat hfk
      by_cases hty : f.ty = kind
      · have t1 : (f.ty == kind) = true := beq_iff_eq.2 hty
        have HTY := Lib.hid hty
        clear hty
        go_wp2_with (at_builtin; refine wpList_append_own _ rfl _ _ 34 rfl W0.heap.size 9 i0 (.string ⟨#[]⟩) 1 16 Tryz.underlying34 hi hz0 hz1 hz2 rfl (by decide) _ _ _ rfl hown ⟨wr.heap.size + 1, 0, none⟩ 1 1 [.string f.nm] rfl rfl ?c1 ?c2 ?c3 ?c4 ?c5 ?_)
        case c1 =>
          intro j y hj
          match j, hj with
          | 0, hj => simp at hj; subst hj; simp [Addr.add]
          | j + 1, hj => simp at hj
        case c2 => intro y hy; simp at hy; subst hy; rfl
        case c3 => unfold maxLen; omega
        case c4 => omega
        case c5 => simp; omega
        intro v' w3 hown3 hgrow _
        have hN := HI.out.step hlt (by rw [HFK.out]; exact HTY.out) (by rw [HFK.out]; exact hown3) hgrow
        have HN := Lib.hid hN
        clear hN hown3 hgrow hown
        go_wp2
        go_roundw
        case rel => exact ⟨k + 1, _, by go_num, HN.out⟩
        case measure => simp [intOf]; omega
      · have t1 : (f.ty == kind) = false := beq_eq_false_iff_ne.2 hty
        clear hty
        have hN := HI.out.skip (o1 := .cells #[.string f.nm, .int .i64 f.kind, .int .i64 f.ty, .int .i64 f.d.op, .int .i64 f.d.k, .int .i64 f.d.n, .string f.d.s, .string f.d.nm, .slice f.A f.n f.c] 50) hlt
        have HN := Lib.hid hN
        clear hN
        go_wp2_with fail
        go_roundw
        case rel => exact ⟨k + 1, names, by go_num, HN.out⟩
        case measure => simp [intOf]; omega
    · obtain ⟨A2, cp, rfl⟩ := own_slice hI.own
      obtain ⟨pk, hpk⟩ : ∃ pk, pick K 4 = pk := ⟨_, rfl⟩
      have hr3 : wr.heap[w.heap.size]? = some (.cells #[.int .i64 0, .int .i64 0, .int .i64 0, .string ⟨#[]⟩, .string ⟨#[]⟩, .slice none 0 0] 48 (0, 0)) := (hI.below.block _ (Array.getElem?_eq_some_iff.1 HR1.out).1).trans HR1.out
      have hr4 : wr.heap[w1.heap.size]? = some (.cells #[.int .i64 K, .int .i64 X, .int .i64 Y, .string T] 72 (0, 0)) := (hI.below.block _ (Array.getElem?_eq_some_iff.1 HR2.out).1).trans HR2.out
      have e0 : wr.cell? ⟨w1.heap.size, 0, none⟩ = some (.int .i64 K) := by simp [World.cell?, hr4]
      have e1 : wr.cell? ⟨w1.heap.size, 1, none⟩ = some (.int .i64 X) := by simp [World.cell?, hr4]
      have e2 : wr.cell? ⟨w1.heap.size, 2, none⟩ = some (.int .i64 Y) := by simp [World.cell?, hr4]
      have e3 : wr.cell? ⟨w1.heap.size, 3, none⟩ = some (.string T) := by simp [World.cell?, hr4]
      have hgw : Gr G w wr := HGR.out.trans ⟨hI.below.os, hI.below.tape, hI.below.output, hI.below.size, fun k hk _ => hI.below.block k hk⟩
      have hgn : Gen wr G A n c a' := HG3.out.below hI.below
      have hp := fun W => picked_any K 4 W k0 (by decide) (by decide)
      rw [hpk] at hp
      have HP := Lib.hid hp
      have HGW := Lib.hid hgw
      have HGN := Lib.hid hgn
      clear hp hI hr4 hgw hgn hpk
      by_cases hcon : names.length = 0 ∨ pk = 0
      · have hc := constant_any kind K X Y T wr k0 k1 k3
        have HC := Lib.hid hc
        clear hc
        obtain ⟨b, hb⟩ : ∃ b : Bool, ((names.length : Int) == 0) = b := ⟨_, rfl⟩
        have hb2 : b = true ∨ (b = false ∧ pk = 0) := by
          rcases hcon with h | h
          · left; rw [← hb, h]; rfl
          · cases b
            · exact .inr ⟨rfl, h⟩
            · exact .inl rfl
        clear hcon
        rcases hb2 with rfl | ⟨rfl, rfl⟩
        all_goals
          go_wp2_with (go_at_call 37; refine (HP.out _).mono ?_; rintro e w5 ⟨rfl, rfl⟩)
          refine HC.out.mono ?_; rintro e w5 ⟨nn, ss, rfl, hk1, hk2, hb5⟩
          have hr5 : w5.heap[w.heap.size]? = some (.cells #[.int .i64 0, .int .i64 0, .int .i64 0, .string ⟨#[]⟩, .string ⟨#[]⟩, .slice none 0 0] 48 (0, 0)) := (hb5.block _ (Array.getElem?_eq_some_iff.1 hr3).1).trans hr3
          have hc5 : ∀ o, w5.cell? ⟨w.heap.size, o, none⟩ = (#[.int .i64 0, .int .i64 0, .int .i64 0, .string ⟨#[]⟩, .string ⟨#[]⟩, .slice none 0 0] : Array Value)[o]? := fun o => by simp [World.cell?, hr5]
          have hf5 : ∀ o, w5.frozen? ⟨w.heap.size, o, none⟩ = false := fun o => by simp [World.frozen?, hr5]
          have HGW5 := Lib.hid (HGW.out.trans (Gr.of_below hb5))
          have HGN5 := Lib.hid (HGN.out.below hb5)
          have HK := Lib.hid (And.intro hk1 hk2)
          clear hb5 hr5 hk1 hk2
          go_wp2_with fail
          refine bodyPost_ret (v := .agg #[.int .i64 1, .int .i64 (vK kind), .int .i64 nn, .string ss, .string ⟨#[]⟩, .slice none 0 0]) (by simp [results, Tryz.results70, go_sem, hc5]) rfl ?_
          refine ⟨⟨1, vK kind, nn, ss, ⟨#[]⟩⟩, rfl, .inl ⟨rfl, rfl, rfl, HK.out.1, HK.out.2⟩, ⟨a', ha', ?_⟩, ?_⟩
          · have := HGN5.out
            repeat' (first | (with_reducible exact this) | (with_reducible refine Gen.far ?_ ?_ _) | (dsimp only; omega))
          · have := HGW5.out
            repeat' (first | (with_reducible exact this) | (with_reducible refine Gr.set ?_ ?_) | (dsimp only; omega))
      · have hlen : 0 < names.length := by omega
        have hpk0 : (pk == 0) = false := beq_eq_false_iff_ne.2 (fun h => hcon (.inr h))
        have hlen0 : ((names.length : Int) == 0) = false := beq_eq_false_iff_ne.2 (by omega)
        obtain ⟨g, cap2, hv, _, hgl, _, _, hcl⟩ := own_form HI.out.own hlen
        injection hv with hv1 _ _
        subst hv1
        obtain ⟨q, hq⟩ : ∃ q, pick Y (names.length : Int) = q := ⟨_, rfl⟩
        obtain ⟨hq0, hq1⟩ := pick_bd Y (names.length : Int) (by omega)
        have hp2 := fun W => picked_any Y (names.length : Int) W k2 (by omega) (by omega)
        rw [hq] at hq0 hq1 hp2
        obtain ⟨qn, rfl⟩ : ∃ qn : Nat, q = qn := ⟨q.toNat, by omega⟩
        have hql : qn < names.length := by omega
        have hcq : wr.cell? ⟨g, qn, none⟩ = some (.string names[qn]) := by
          rw [hcl qn (by omega)]; simp [hql]
        have hmem := HI.out.all names[qn] (List.getElem_mem _)
        obtain ⟨nmq, hnm⟩ : ∃ x, names[qn] = x := ⟨_, rfl⟩
        rw [hnm] at hcq hmem
        have HM := Lib.hid hmem
        have HP2 := Lib.hid hp2
        have hc5 : ∀ o, wr.cell? ⟨w.heap.size, o, none⟩ = (#[.int .i64 0, .int .i64 0, .int .i64 0, .string ⟨#[]⟩, .string ⟨#[]⟩, .slice none 0 0] : Array Value)[o]? := fun o => by simp [World.cell?, hr3]
        have hf5 : ∀ o, wr.frozen? ⟨w.heap.size, o, none⟩ = false := fun o => by simp [World.frozen?, hr3]
        clear hp2 hmem hnm hcl hr3 hcon hq
        go_wp2_with (first | (go_at_call 37; (with_reducible refine (HP.out _).mono ?_); rintro e w5 ⟨rfl, rfl⟩) | (go_at_call 37; (with_reducible refine (HP2.out _).mono ?_); rintro e w5 ⟨rfl, rfl⟩))
        refine bodyPost_ret (v := .agg #[.int .i64 2, .int .i64 0, .int .i64 0, .string ⟨#[]⟩, .string nmq, .slice none 0 0]) (by simp [results, Tryz.results70, go_sem, hc5]) rfl ?_
        refine ⟨⟨2, 0, 0, ⟨#[]⟩, nmq⟩, rfl, .inr ⟨rfl, rfl, rfl, rfl, HM.out⟩, ⟨a', ha', ?_⟩, ?_⟩
        · have := HGN.out
          repeat' (first | (with_reducible exact this) | (with_reducible refine Gen.far ?_ ?_ _) | (dsimp only; omega))
        · have := HGW.out
          repeat' (first | (with_reducible exact this) | (with_reducible refine Gr.set ?_ ?_) | (dsimp only; omega))
end Go.Proofs.YtdlfhldboagbeaaGreatDoor.GenL
