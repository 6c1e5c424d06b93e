/- Formulas in memory: what reads as a tree; Size. -/
import Derived.Test.YtehkebncdahmcaaGreatDoorProg
import Derived.Test.YtehkebncdahmcaaGreatDoorExMath
import Derived.Test.YtehkebncdahmcaaGreatDoorKit
import Derived.WalkKit
import Derived.ProofKit
import Derived.Lib.Hide
import Derived.Outline
import Derived.Below
import Derived.WalkSpells
import Derived.WalkLawsBesides
import Derived.IntWalk
namespace Go.Proofs.YtehkebncdahmcaaGreatDoor.ExL
open Go.RowKit
open ExM Kit
set_option linter.unusedVariables false

/-- A formula as a value: its own data, and where its operands lie. -/
def exV (d : Nd) (A : Option Addr) (n c : Nat) : Value := .agg #[.int .i64 d.op, .int .i64 d.k, .int .i64 d.n, .string d.s, .string d.nm, .slice A n c]
/-- Six cells at an address are that value. -/
def At (w : World) (a : Addr) (d : Nd) (A : Option Addr) (n c : Nat) : Prop :=
  w.cell? a = some (.int .i64 d.op) ∧ w.cell? ⟨a.block, a.off + 1, none⟩ = some (.int .i64 d.k) ∧ w.cell? ⟨a.block, a.off + 2, none⟩ = some (.int .i64 d.n) ∧ w.cell? ⟨a.block, a.off + 3, none⟩ = some (.string d.s) ∧ w.cell? ⟨a.block, a.off + 4, none⟩ = some (.string d.nm) ∧ w.cell? ⟨a.block, a.off + 5, none⟩ = some (.slice A n c)
mutual
/-- In a world a formula lies behind these operands. -/
def Is (w : World) : Ex → Nd → Option Addr → Nat → Prop
  | .mk d l, d', A, n => d' = d ∧ n = l.length ∧ (n ≤ maxLen ∧ d.s.size ≤ maxLen ∧ d.nm.size ≤ maxLen) ∧ IsL w A 0 l
def IsL (w : World) (A : Option Addr) : Nat → List Ex → Prop
  | _, [] => True
  | i, x :: l => (∃ a d B n c, A = some a ∧ At w (a.add (i * 6)) d B n c ∧ Is w x d B n) ∧ IsL w A (i + 1) l
end
theorem isL_at {w : World} {A : Option Addr} : ∀ {l : List Ex} {i : Nat}, IsL w A i l → ∀ (j : Nat) (h : j < l.length), ∃ a d B n c, A = some a ∧ At w (a.add ((i + j) * 6)) d B n c ∧ Is w l[j] d B n
  | [], _, _, j, h => absurd h (by simp)
  | x :: l, i, hl, j, h => by
    rw [IsL] at hl
    match j, h with
    | 0, _ => exact hl.1
    | j + 1, h =>
      have := isL_at hl.2 j (by simpa using h)
      rw [show i + 1 + j = i + (j + 1) by omega] at this
      exact this
theorem block_of_add (a : Addr) (n : Nat) : (a.add n).block = a.block := by unfold Addr.add; split <;> rfl
theorem cell_lt' {w : World} {a : Addr} {v : Value} (h : w.cell? a = some v) : a.block < w.heap.size := by
  rcases Nat.lt_or_ge a.block w.heap.size with hl | hg
  · exact hl
  · unfold World.cell? at h; rw [Array.getElem?_eq_none hg] at h; cases h
theorem At.keep {w w' : World} {a : Addr} {d : Nd} {A : Option Addr} {n c : Nat} (h : At w a d A n c) (hk : ∀ p : Addr, p.block = a.block → w'.cell? p = w.cell? p) : At w' a d A n c := by
  obtain ⟨h0, h1, h2, h3, h4, h5⟩ := h
  exact ⟨(hk a rfl).trans h0, (hk ⟨a.block, a.off + 1, none⟩ rfl).trans h1, (hk ⟨a.block, a.off + 2, none⟩ rfl).trans h2, (hk ⟨a.block, a.off + 3, none⟩ rfl).trans h3, (hk ⟨a.block, a.off + 4, none⟩ rfl).trans h4, (hk ⟨a.block, a.off + 5, none⟩ rfl).trans h5⟩
theorem At.lt {w : World} {a : Addr} {d : Nd} {A : Option Addr} {n c : Nat} (h : At w a d A n c) : a.block < w.heap.size := cell_lt' h.1
theorem At.below {w w' : World} {a : Addr} {d : Nd} {A : Option Addr} {n c : Nat} (h : At w a d A n c) (hb : Below w.heap.size w w') : At w' a d A n c := h.keep fun p hp => hb.cell (by rw [hp]; exact h.lt)
theorem isL_of {w : World} {A : Option Addr} : ∀ {l : List Ex} {i : Nat}, (∀ (j : Nat) (h : j < l.length), ∃ a d B n c, A = some a ∧ At w (a.add ((i + j) * 6)) d B n c ∧ Is w l[j] d B n) → IsL w A i l
  | [], _, _ => by rw [IsL]; trivial
  | x :: l, i, h => by
    rw [IsL]
    refine ⟨h 0 (by simp), isL_of fun j hj => ?_⟩
    have := h (j + 1) (by simpa using hj)
    rw [show i + (j + 1) = i + 1 + j by omega] at this
    exact this
theorem is_mk {w : World} {d d' : Nd} {l : List Ex} {A : Option Addr} {n : Nat} : Is w (.mk d l) d' A n ↔ d' = d ∧ n = l.length ∧ (n ≤ maxLen ∧ d.s.size ≤ maxLen ∧ d.nm.size ≤ maxLen) ∧ ∀ (j : Nat) (h : j < l.length), ∃ a d B n c, A = some a ∧ At w (a.add (j * 6)) d B n c ∧ Is w l[j] d B n := by
  rw [Is]
  refine ⟨fun ⟨h1, h2, h3, h4⟩ => ⟨h1, h2, h3, fun j hj => by have := isL_at h4 j hj; rwa [Nat.zero_add] at this⟩, fun ⟨h1, h2, h3, h4⟩ => ⟨h1, h2, h3, isL_of fun j hj => by rw [Nat.zero_add]; exact h4 j hj⟩⟩
/-- Where the cells of old blocks are kept, formulas are. -/
theorem Is.keep {w w' : World} (hk : ∀ p : Addr, p.block < w.heap.size → w'.cell? p = w.cell? p) : ∀ (x : Ex) (d : Nd) (A : Option Addr) (n : Nat), Is w x d A n → Is w' x d A n := by
  refine Ex.ind fun d l ih => ?_
  intro d' A n h
  rw [is_mk] at h ⊢
  obtain ⟨h1, h2, h3, h4⟩ := h
  refine ⟨h1, h2, h3, fun j hj => ?_⟩
  obtain ⟨a, d2, B, m, c, e, ha, hi⟩ := h4 j hj
  exact ⟨a, d2, B, m, c, e, ha.keep fun p hp => hk p (by rw [hp]; exact ha.lt), ih _ (List.getElem_mem _) _ _ _ hi⟩
theorem Is.below {w w' : World} {x : Ex} {d : Nd} {A : Option Addr} {n : Nat} (h : Is w x d A n) (hb : Below w.heap.size w w') : Is w' x d A n := Is.keep (fun _ hp => hb.cell hp) x d A n h
theorem Is.alloc {w : World} {x : Ex} {d : Nd} {A : Option Addr} {n : Nat} (h : Is w x d A n) (o : Obj) : Is (w.alloc o) x d A n := h.below (b_new w o)

/-! ### Size -/
theorem int_max (q t : Nat) : Value.int .i64 (if q < t then (t : Int) else q) = .int .i64 ((max q t : Nat) : Int) := by
  by_cases h : q < t
  · rw [if_pos h, Nat.max_eq_right (by omega)]
  · rw [if_neg h, Nat.max_eq_left (by omega)]
set_option maxHeartbeats 1000000 in
theorem size_any : ∀ (x : Ex) (d : Nd) (A : Option Addr) (n c : Nat) (w : World), x.nodes ≤ 1000000000000 → Is w x d A n →
    Calls Tryz.prog 17 #[.agg #[.int .i64 d.op, .int .i64 d.k, .int .i64 d.n, .string d.s, .string d.nm, .slice A n c]] w fun e w' => e = .returned (.tuple #[.int .i64 (x.nodes : Int), .int .i64 (x.depth : Int)]) ∧ Below w.heap.size w w' := by
  refine Ex.ind fun d l ih => ?_
  intro d' A n c w hx his
  rw [is_mk] at his
  obtain ⟨rfl, rfl, ⟨hm, _⟩, his⟩ := his
  have hlen := len_nodesL l
  have hdn := depth_le_nodes (Ex.mk d' l)
  rw [depth_mk] at hdn
  rw [nodes_mk] at hx hdn
  obtain ⟨N, hN⟩ : ∃ N, nodesL l = N := ⟨_, rfl⟩
  obtain ⟨D, hD⟩ : ∃ D, depthL l = D := ⟨_, rfl⟩
  have e1 : ((Ex.mk d' l).nodes : Int) = ((1 + N : Nat) : Int) := by rw [nodes_mk, hN]
  have e2 : ((Ex.mk d' l).depth : Int) = ((D + 1 : Nat) : Int) := by rw [depth_mk, hD]
  rw [e1, e2]
  rw [hN] at hx hdn hlen
  rw [hD] at hdn
  clear e1 e2
  have HN := Lib.hid hN
  have HD := Lib.hid hD
  have HS := Lib.hid his
  have HI := Lib.hid ih
  clear hN hD his ih
  unfold maxLen at hm
  go_enter Tryz.func17, Tryz.ntmps17
  go_wp2_with fail
  go_loopw [4, 5, 7, 8, 9, 13] (fun cnt dp _ _ _ i wr => ∃ (k p q : Nat), i = .int .i64 k ∧ k ≤ l.length ∧ Below w.heap.size w wr ∧ cnt = .int .i64 (p : Int) ∧ dp = .int .i64 (q : Int) ∧ p = 1 + nodesL (l.take k) ∧ q = depthL (l.take k)) (fun _ _ _ _ _ i _ => l.length - (intOf i).toNat)
  case atStart => exact ⟨0, 1, 0, rfl, Nat.zero_le _, b_new _ _, rfl, rfl, by simp [nodesL_nil], by simp [depthL_nil]⟩
  case round =>
    obtain ⟨k, p, q, rfl, hk, hb, rfl, rfl, hp, hq⟩ := hrel
    have hpb : p ≤ 1 + N := by rw [hp, ← HN.out]; have := nodesL_take l k; omega
    have hqb : q ≤ D := by rw [hq, ← HD.out]; exact depthL_take l k
    have HP := Lib.hid hp
    have HQ := Lib.hid hq
    clear hp hq
    by_cases hlt : k < l.length
    · obtain ⟨a, d2, B, m, c2, rfl, hat, hi⟩ := HS.out k hlt
      obtain ⟨h0, h1, h2, h3, h4, h5⟩ := hat.below hb
      have hi2 := (hi.below hb).alloc (.cells #[.int .i64 d2.op, .int .i64 d2.k, .int .i64 d2.n, .string d2.s, .string d2.nm, .slice B m c2] 26)
      have hxn : l[k].nodes ≤ N := by rw [← HN.out]; exact nodes_mem (List.getElem_mem _)
      have hxd : l[k].depth ≤ D := by rw [← HD.out]; exact depth_mem (List.getElem_mem _)
      obtain ⟨s, hs⟩ : ∃ s, l[k].nodes = s := ⟨_, rfl⟩
      obtain ⟨t, ht⟩ : ∃ t, l[k].depth = t := ⟨_, rfl⟩
      have hp2 : p + s = 1 + nodesL (l.take (k + 1)) := by rw [nodesL_at l k hlt, HP.out, hs]; omega
      have hq2 : max q t = depthL (l.take (k + 1)) := by rw [depthL_at l k hlt, HQ.out, ht]
      have hpb2 : p + s ≤ 1 + N := by rw [hp2, ← HN.out]; have := nodesL_take l (k + 1); omega
      have hc := HI.out _ (List.getElem_mem hlt) d2 B m c2 _ (by omega) hi2
      rw [hs, ht] at hc
      rw [hs] at hxn
      rw [ht] at hxd
      have HC := Lib.hid hc
      have HP2 := Lib.hid hp2
      have HQ2 := Lib.hid hq2
      have HB := Lib.hid hb
      clear hc hp2 hq2 hs ht hi hi2 hat hb
      go_wp2_with fail
      refine HC.out.mono ?_; rintro e w2 ⟨rfl, hb2⟩
      have hb3 : Below w.heap.size w w2 := HB.out.trans ((b_then hb2).mono HB.out.size)
      have hcell := hb2.cell (p := ⟨w.heap.size, 5, none⟩) (by have := HB.out.size; simp; omega)
      have HB3 := Lib.hid hb3
      clear hb2 hb3 hcell
      go_wp2_with fail
      go_roundw
      case rel => exact ⟨k + 1, p + s, max q t, by go_num, by omega, HB3.out, by go_num, int_max q t, HP2.out, HQ2.out⟩
      case measure => simp [intOf]; omega
    · have hkl : k = l.length := by omega
      have hp2 : p = 1 + N := by rw [HP.out, hkl, List.take_length, HN.out]
      have hq2 : q = D := by rw [HQ.out, hkl, List.take_length, HD.out]
      have HP2 := Lib.hid hp2
      have HQ2 := Lib.hid hq2
      clear hkl hp2 hq2
      go_wp2_with fail
      go_ret2
      exact ⟨by rw [HP2.out, HQ2.out]; rfl, hb⟩
end Go.Proofs.YtehkebncdahmcaaGreatDoor.ExL
