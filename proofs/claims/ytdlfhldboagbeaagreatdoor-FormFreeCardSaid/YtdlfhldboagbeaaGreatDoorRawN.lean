/- Raw things by their contents: what the statements' generator draws, told by what lies there. -/
import Derived.Test.YtdlfhldboagbeaaGreatDoorGenLeaf
namespace Go.Proofs.YtdlfhldboagbeaaGreatDoor.RawN
open Go.RowKit
open ValM LexM NumM ExM Kit ExL RawV Within RawL
set_option linter.unusedVariables false

structure Rw where
  k : Int
  x : Int
  y : Int
  t : ByteArray
def Rw.ok (r : Rw) : Prop := (Lit.int .i64 r.k).wf = true ∧ (Lit.int .i64 r.x).wf = true ∧ (Lit.int .i64 r.y).wf = true ∧ r.t.size ≤ maxLen
def RAt (w : World) (p : Addr) (r : Rw) : Prop := w.cell? p = some (.int .i64 r.k) ∧ w.cell? ⟨p.block, p.off + 1, none⟩ = some (.int .i64 r.x) ∧ w.cell? ⟨p.block, p.off + 2, none⟩ = some (.int .i64 r.y) ∧ w.cell? ⟨p.block, p.off + 3, none⟩ = some (.string r.t)
/-- A slice of raw things, by what they are. -/
def RawsV (w : World) (A : Option Addr) (rs : List Rw) (c : Nat) : Prop :=
  rs.length ≤ c ∧ c ≤ maxLen ∧ ∀ (i : Nat) (h : i < rs.length), ∃ a : Addr, A = some a ∧ RAt w (a.add (i * 4)) rs[i] ∧ rs[i].ok
theorem RawsV.raws {w : World} {A : Option Addr} {rs : List Rw} {c : Nat} (h : RawsV w A rs c) : Raws w A rs.length c :=
  ⟨h.1, h.2.1, fun i hi => by
    obtain ⟨a, e, ⟨c0, c1, c2, c3⟩, o⟩ := h.2.2 i hi
    exact ⟨a, _, _, _, _, e, c0, c1, c2, c3, o⟩⟩
theorem Raws.val : ∀ (n : Nat) {w : World} {A : Option Addr} {c : Nat}, Raws w A n c → ∃ rs : List Rw, rs.length = n ∧ RawsV w A rs c
  | n, w, A, c, h => by
    have key : ∀ m, m ≤ n → ∃ rs : List Rw, rs.length = m ∧ ∀ (i : Nat) (h : i < rs.length), ∃ a : Addr, A = some a ∧ RAt w (a.add (i * 4)) rs[i] ∧ rs[i].ok := by
      intro m
      induction m with
      | zero => exact fun _ => ⟨[], rfl, fun i h => absurd h (by simp)⟩
      | succ m ih =>
        intro hm
        obtain ⟨rs, hl, hrs⟩ := ih (by omega)
        obtain ⟨a, k, x, y, t, e, c0, c1, c2, c3, r⟩ := h.2.2 m (by omega)
        refine ⟨rs ++ [⟨k, x, y, t⟩], by simp [hl], fun i hi => ?_⟩
        by_cases hi' : i < rs.length
        · rw [List.getElem_append_left hi']; exact hrs i hi'
        · have : i = rs.length := by simp at hi; omega
          subst this
          simp only [List.getElem_concat_length]
          rw [hl]
          exact ⟨a, e, ⟨c0, c1, c2, c3⟩, r⟩
    obtain ⟨rs, hl, hrs⟩ := key n (Nat.le_refl _)
    exact ⟨rs, hl, by rw [hl]; exact h.1, h.2.1, hrs⟩
theorem RawsV.keep {w w' : World} {A : Option Addr} {rs : List Rw} {c : Nat} (h : RawsV w A rs c) (hk : ∀ (p : Addr) (v0 v1 v2 : Value), w.cell? p = some v0 → w.cell? ⟨p.block, p.off + 2, none⟩ = some v2 → w'.heap[p.block]? = w.heap[p.block]?) : RawsV w' A rs c :=
  ⟨h.1, h.2.1, fun i hi => by
    obtain ⟨a, e, ⟨c0, c1, c2, c3⟩, r⟩ := h.2.2 i hi
    have hb := hk _ _ (.bool true) _ c0 c2
    exact ⟨a, e, ⟨(World.cell?_of_block hb).trans c0, (World.cell?_of_block (a := ⟨(a.add (i * 4)).block, (a.add (i * 4)).off + 1, none⟩) hb).trans c1, (World.cell?_of_block (a := ⟨(a.add (i * 4)).block, (a.add (i * 4)).off + 2, none⟩) hb).trans c2, (World.cell?_of_block (a := ⟨(a.add (i * 4)).block, (a.add (i * 4)).off + 3, none⟩) hb).trans c3⟩, r⟩⟩
theorem RawsV.below {w w' : World} {A : Option Addr} {rs : List Rw} {c : Nat} (h : RawsV w A rs c) (hb : Below w.heap.size w w') : RawsV w' A rs c := h.keep fun p v0 v1 v2 h0 h2 => hb.block _ (cell_lt' h0)
theorem Gr.rawsV {G : Nat} {w w' : World} {A A' : Option Addr} {rs : List Rw} {c n' c' a : Nat} (h : Gr G w w') (hg : Gen w G A' n' c' a) (r : RawsV w A rs c) : RawsV w' A rs c :=
  r.keep fun p v0 v1 v2 h0 h2 => h.block _ (cell_lt' h0) (fun e => by
    cases e
    rw [hg.none2 p.off] at h2; cases h2)
/-- What is drawn at the a-th time, and how often was asked then. -/
def nextV (rs : List Rw) (a : Nat) : Rw :=
  match rs[a % rs.length]? with
  | none => ⟨0, 0, 0, ⟨#[]⟩⟩
  | some r => { r with x := wrap64 (r.x + (a : Int) / (rs.length : Int)) }
def nextA (rs : List Rw) (a : Nat) : Nat := if rs.length = 0 then a else a + 1
def NextV (G : Nat) (A : Option Addr) (rs : List Rw) (c a : Nat) (w : World) (e : Ending) (w' : World) : Prop :=
  e = .returned (.agg #[.int .i64 (nextV rs a).k, .int .i64 (nextV rs a).x, .int .i64 (nextV rs a).y, .string (nextV rs a).t]) ∧ (nextV rs a).ok ∧ Gen w' G A rs.length c (nextA rs a) ∧ Gr G w w'
set_option maxHeartbeats 1000000 in
theorem nextV_none (G c a : Nat) (A : Option Addr) (w : World) (hg : Gen w G A 0 c a) :
    Calls Tryz.prog 36 #[.pointer (some ⟨G, 0, none⟩)] w (NextV G A [] c a w) := by
  obtain ⟨g0, g1, g2⟩ := hg.cells
  have gl := hg.lt
  have HG := Lib.hid hg
  clear hg
  go_enter Tryz.func36, Tryz.ntmps36
  go_wp2_with fail
  refine bodyPost_ret (v := .agg #[.int .i64 0, .int .i64 0, .int .i64 0, .string ⟨#[]⟩]) (by simp [results, Tryz.results36, go_sem]) rfl ?_
  exact ⟨rfl, ⟨rfl, rfl, rfl, Nat.zero_le _⟩, HG.out.below (b_new _ _), Gr.of_below (b_new _ _)⟩
set_option maxHeartbeats 1000000 in
theorem nextV_some (G n c a : Nat) (A : Option Addr) (rs : List Rw) (w : World) (hrl : rs.length = n) (hg : Gen w G A n c a) (hr : RawsV w A rs c) (hn : 0 < n) (ha : a ≤ 1000000000) :
    Calls Tryz.prog 36 #[.pointer (some ⟨G, 0, none⟩)] w (NextV G A rs c a w) := by
  obtain ⟨g0, g1, g2⟩ := hg.cells
  have gl := hg.lt
  obtain ⟨j, hj⟩ : ∃ j, a % n = j := ⟨_, rfl⟩
  have hjn : j < n := by rw [← hj]; exact Nat.mod_lt _ hn
  obtain ⟨ad, rfl, ⟨r0, r1, r2, r3⟩, k0, k1, k2, k3⟩ := hr.2.2 j (by rw [hrl]; exact hjn)
  have hnv : ∀ R : Rw, rs[j]? = some R → nextV rs a = ⟨R.k, wrap64 (R.x + (a : Int) / (n : Int)), R.y, R.t⟩ := fun R h => by
    unfold nextV
    rw [hrl, hj, h]
  have hnv := hnv _ (List.getElem?_eq_getElem (by rw [hrl]; exact hjn))
  have hna : nextA rs a = a + 1 := by unfold nextA; rw [if_neg (by omega)]
  generalize hR : rs[j]'(by rw [hrl]; exact hjn) = R at r0 r1 r2 r3 k0 k1 k2 k3 hnv
  obtain ⟨K, X, Y, T⟩ := R
  simp only at r0 r1 r2 r3 k0 k1 k2 k3 hnv
  have hn2 : n ≤ maxLen := Nat.le_trans (by have := hr.1; omega) hr.2.1
  unfold maxLen at hn2
  have i0 : (0 : Int) ≤ (a : Int) := by omega
  have i1 : (0 : Int) < (n : Int) := by omega
  have i2 : ((n : Int) == 0) = false := beq_eq_false_iff_ne.2 (by omega)
  have i3 : ((a : Int) % (n : Int)).toNat = j := by rw [← hj, ← Int.natCast_emod, Int.toNat_natCast]
  have i4 : (0 : Int) ≤ (a : Int) % (n : Int) := Int.emod_nonneg _ (by omega)
  have i5 : (a : Int) % (n : Int) < (n : Int) := Int.emod_lt_of_pos _ i1
  have i6 : ¬ (n : Int) = 0 := by omega
  have HG := Lib.hid hg
  have HNV := Lib.hid hnv
  have HNA := Lib.hid hna
  have HRL := Lib.hid hrl
  clear hg hr hj hnv hna hrl hR
  go_enter Tryz.func36, Tryz.ntmps36
  go_wp2_with fail
  have v0 : ∀ o o', ((w.alloc o).alloc o').cell? (ad.add (j * 4)) = some (.int .i64 K) := fun o o' => by rw [World.cell?_alloc_lt _ _ _ (by have := cell_lt' r0; simp; omega), World.cell?_alloc_lt _ _ _ (cell_lt' r0)]; exact r0
  have v1 : ∀ o o', ((w.alloc o).alloc o').cell? ⟨(ad.add (j * 4)).block, (ad.add (j * 4)).off + 1, none⟩ = some (.int .i64 X) := fun o o' => by rw [World.cell?_alloc_lt _ _ _ (by have := cell_lt' r1; simp; simp at this; omega), World.cell?_alloc_lt _ _ _ (cell_lt' r1)]; exact r1
  have v2 : ∀ o o', ((w.alloc o).alloc o').cell? ⟨(ad.add (j * 4)).block, (ad.add (j * 4)).off + 2, none⟩ = some (.int .i64 Y) := fun o o' => by rw [World.cell?_alloc_lt _ _ _ (by have := cell_lt' r2; simp; simp at this; omega), World.cell?_alloc_lt _ _ _ (cell_lt' r2)]; exact r2
  have v3 : ∀ o o', ((w.alloc o).alloc o').cell? ⟨(ad.add (j * 4)).block, (ad.add (j * 4)).off + 3, none⟩ = some (.string T) := fun o o' => by rw [World.cell?_alloc_lt _ _ _ (by have := cell_lt' r3; simp; simp at this; omega), World.cell?_alloc_lt _ _ _ (cell_lt' r3)]; exact r3
  have u0 : ∀ o, (w.alloc o).cell? (ad.add (j * 4)) = some (.int .i64 K) := fun o => by rw [World.cell?_alloc_lt _ _ _ (cell_lt' r0)]; exact r0
  have u1 : ∀ o, (w.alloc o).cell? ⟨(ad.add (j * 4)).block, (ad.add (j * 4)).off + 1, none⟩ = some (.int .i64 X) := fun o => by rw [World.cell?_alloc_lt _ _ _ (cell_lt' r1)]; exact r1
  have u2 : ∀ o, (w.alloc o).cell? ⟨(ad.add (j * 4)).block, (ad.add (j * 4)).off + 2, none⟩ = some (.int .i64 Y) := fun o => by rw [World.cell?_alloc_lt _ _ _ (cell_lt' r2)]; exact r2
  have u3 : ∀ o, (w.alloc o).cell? ⟨(ad.add (j * 4)).block, (ad.add (j * 4)).off + 3, none⟩ = some (.string T) := fun o => by rw [World.cell?_alloc_lt _ _ _ (cell_lt' r3)]; exact r3
  clear r0 r1 r2 r3
  go_region
  clear v0 v1 v2 v3 u0 u1 u2 u3
  have d0 : (0 : Int) ≤ (a : Int) / (n : Int) := Int.ediv_nonneg i0 (by omega)
  have d1 : (a : Int) / (n : Int) ≤ 1000000000 := Int.le_trans (Int.ediv_le_self _ i0) (by omega)
  go_wp2_with fail
  go_region
  go_wp2_with fail
  refine bodyPost_ret (v := .agg #[.int .i64 K, .int .i64 (wrap64 (X + (a : Int) / (n : Int))), .int .i64 Y, .string T]) (by simp [results, Tryz.results36, go_sem]) rfl ?_
  have hs := Gen.step HG.out
  unfold NextV
  rw [HNV.out, HNA.out, HRL.out]
  refine ⟨rfl, ⟨k0, wrap64_wf _, k2, k3⟩, ?_, ?_⟩
  · exact ((hs.1.alloc _).alloc _).below (b_drew (b_drew (Below.refl _ _)))
  · exact hs.2.trans (Gr.of_below (b_drew (b_drew (b_more (b_new _ _) _))))
theorem nextV_any (G c a : Nat) (A : Option Addr) (rs : List Rw) (w : World) (hg : Gen w G A rs.length c a) (hr : RawsV w A rs c) (ha : a ≤ 1000000000) :
    Calls Tryz.prog 36 #[.pointer (some ⟨G, 0, none⟩)] w (NextV G A rs c a w) := by
  rcases Nat.eq_zero_or_pos rs.length with h | h
  · obtain rfl : rs = [] := List.length_eq_zero_iff.1 h
    exact nextV_none G c a A w hg
  · exact nextV_some G _ c a A rs w rfl hg hr h ha
end Go.Proofs.YtdlfhldboagbeaaGreatDoor.RawN
