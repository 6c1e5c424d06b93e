/- Formulas in memory: what reads as a tree; Size. Formulas in memory, and in which blocks they lie. Two formulas that are the same tree: sameExpr, SameExpr, slices.EqualFunc on operands. -/
import Derived.Test.YtdlfhldboagbeaaGreatDoorProg
import Derived.Test.YtdlfhldboagbeaaGreatDoorBase
import Derived.Test.YtdlfhldboagbeaaGreatDoorKit
import Derived.WalkKit
import Derived.ProofKit
import Derived.Lib.Hide
import Derived.Outline
import Derived.Below
import Derived.WalkSpells
import Derived.WalkLawsBesides
import Derived.IntWalk
import Derived.Laws.OwnMore
import Derived.OwnWalk
import Derived.ChangeAlike
namespace Go.Proofs.YtdlfhldboagbeaaGreatDoor.ExL
open Go.RowKit
open ExM Kit
set_option linter.unusedVariables false

/-- A formula as a value: its own data, and where its operands lie. -/
def exV (d : Nd) (A : Option Addr) (n c : Nat) : Value := .agg #[.int .i64 d.op, .int .i64 d.k, .int .i64 d.n, .string d.s, .string d.nm, .slice A n c]
/-- Six cells at an address are that value. -/
def At (w : World) (a : Addr) (d : Nd) (A : Option Addr) (n c : Nat) : Prop :=
  w.cell? a = some (.int .i64 d.op) ∧ w.cell? ⟨a.block, a.off + 1, none⟩ = some (.int .i64 d.k) ∧ w.cell? ⟨a.block, a.off + 2, none⟩ = some (.int .i64 d.n) ∧ w.cell? ⟨a.block, a.off + 3, none⟩ = some (.string d.s) ∧ w.cell? ⟨a.block, a.off + 4, none⟩ = some (.string d.nm) ∧ w.cell? ⟨a.block, a.off + 5, none⟩ = some (.slice A n c)
mutual
/-- In a world a formula lies behind these operands. -/
def Is (w : World) : Ex → Nd → Option Addr → Nat → Prop
  | .mk d l, d', A, n => d' = d ∧ n = l.length ∧ (n ≤ maxLen ∧ d.s.size ≤ maxLen ∧ d.nm.size ≤ maxLen) ∧ IsL w A 0 l
def IsL (w : World) (A : Option Addr) : Nat → List Ex → Prop
  | _, [] => True
  | i, x :: l => (∃ a d B n c, A = some a ∧ At w (a.add (i * 6)) d B n c ∧ Is w x d B n) ∧ IsL w A (i + 1) l
end
theorem isL_at {w : World} {A : Option Addr} : ∀ {l : List Ex} {i : Nat}, IsL w A i l → ∀ (j : Nat) (h : j < l.length), ∃ a d B n c, A = some a ∧ At w (a.add ((i + j) * 6)) d B n c ∧ Is w l[j] d B n
  | [], _, _, j, h => absurd h (by simp)
  | x :: l, i, hl, j, h => by
    rw [IsL] at hl
    match j, h with
    | 0, _ => exact hl.1
    | j + 1, h =>
      have := isL_at hl.2 j (by simpa using h)
      rw [show i + 1 + j = i + (j + 1) by omega] at this
      exact this
theorem block_of_add (a : Addr) (n : Nat) : (a.add n).block = a.block := by unfold Addr.add; split <;> rfl
theorem cell_lt' {w : World} {a : Addr} {v : Value} (h : w.cell? a = some v) : a.block < w.heap.size := by
  rcases Nat.lt_or_ge a.block w.heap.size with hl | hg
  · exact hl
  · unfold World.cell? at h; rw [Array.getElem?_eq_none hg] at h; cases h
theorem At.keep {w w' : World} {a : Addr} {d : Nd} {A : Option Addr} {n c : Nat} (h : At w a d A n c) (hk : ∀ p : Addr, p.block = a.block → w'.cell? p = w.cell? p) : At w' a d A n c := by
  obtain ⟨h0, h1, h2, h3, h4, h5⟩ := h
  exact ⟨(hk a rfl).trans h0, (hk ⟨a.block, a.off + 1, none⟩ rfl).trans h1, (hk ⟨a.block, a.off + 2, none⟩ rfl).trans h2, (hk ⟨a.block, a.off + 3, none⟩ rfl).trans h3, (hk ⟨a.block, a.off + 4, none⟩ rfl).trans h4, (hk ⟨a.block, a.off + 5, none⟩ rfl).trans h5⟩
theorem At.lt {w : World} {a : Addr} {d : Nd} {A : Option Addr} {n c : Nat} (h : At w a d A n c) : a.block < w.heap.size := cell_lt' h.1
theorem At.below {w w' : World} {a : Addr} {d : Nd} {A : Option Addr} {n c : Nat} (h : At w a d A n c) (hb : Below w.heap.size w w') : At w' a d A n c := h.keep fun p hp => hb.cell (by rw [hp]; exact h.lt)
theorem isL_of {w : World} {A : Option Addr} : ∀ {l : List Ex} {i : Nat}, (∀ (j : Nat) (h : j < l.length), ∃ a d B n c, A = some a ∧ At w (a.add ((i + j) * 6)) d B n c ∧ Is w l[j] d B n) → IsL w A i l
  | [], _, _ => by rw [IsL]; trivial
  | x :: l, i, h => by
    rw [IsL]
    refine ⟨h 0 (by simp), isL_of fun j hj => ?_⟩
    have := h (j + 1) (by simpa using hj)
    rw [show i + (j + 1) = i + 1 + j by omega] at this
    exact this
theorem is_mk {w : World} {d d' : Nd} {l : List Ex} {A : Option Addr} {n : Nat} : Is w (.mk d l) d' A n ↔ d' = d ∧ n = l.length ∧ (n ≤ maxLen ∧ d.s.size ≤ maxLen ∧ d.nm.size ≤ maxLen) ∧ ∀ (j : Nat) (h : j < l.length), ∃ a d B n c, A = some a ∧ At w (a.add (j * 6)) d B n c ∧ Is w l[j] d B n := by
  rw [Is]
  refine ⟨fun ⟨h1, h2, h3, h4⟩ => ⟨h1, h2, h3, fun j hj => by have := isL_at h4 j hj; rwa [Nat.zero_add] at this⟩, fun ⟨h1, h2, h3, h4⟩ => ⟨h1, h2, h3, isL_of fun j hj => by rw [Nat.zero_add]; exact h4 j hj⟩⟩
/-- Where the cells of old blocks are kept, formulas are. -/
theorem Is.keep {w w' : World} (hk : ∀ p : Addr, p.block < w.heap.size → w'.cell? p = w.cell? p) : ∀ (x : Ex) (d : Nd) (A : Option Addr) (n : Nat), Is w x d A n → Is w' x d A n := by
  refine Ex.ind fun d l ih => ?_
  intro d' A n h
  rw [is_mk] at h ⊢
  obtain ⟨h1, h2, h3, h4⟩ := h
  refine ⟨h1, h2, h3, fun j hj => ?_⟩
  obtain ⟨a, d2, B, m, c, e, ha, hi⟩ := h4 j hj
  exact ⟨a, d2, B, m, c, e, ha.keep fun p hp => hk p (by rw [hp]; exact ha.lt), ih _ (List.getElem_mem _) _ _ _ hi⟩
theorem Is.below {w w' : World} {x : Ex} {d : Nd} {A : Option Addr} {n : Nat} (h : Is w x d A n) (hb : Below w.heap.size w w') : Is w' x d A n := Is.keep (fun _ hp => hb.cell hp) x d A n h
theorem Is.alloc {w : World} {x : Ex} {d : Nd} {A : Option Addr} {n : Nat} (h : Is w x d A n) (o : Obj) : Is (w.alloc o) x d A n := h.below (b_new w o)

/-! ### Size -/
theorem int_max (q t : Nat) : Value.int .i64 (if q < t then (t : Int) else q) = .int .i64 ((max q t : Nat) : Int) := by
  by_cases h : q < t
  · rw [if_pos h, Nat.max_eq_right (by omega)]
  · rw [if_neg h, Nat.max_eq_left (by omega)]
set_option maxHeartbeats 1000000 in
theorem size_any : ∀ (x : Ex) (d : Nd) (A : Option Addr) (n c : Nat) (w : World), x.nodes ≤ 1000000000000 → Is w x d A n →
    Calls Tryz.prog 112 #[.agg #[.int .i64 d.op, .int .i64 d.k, .int .i64 d.n, .string d.s, .string d.nm, .slice A n c]] w fun e w' => e = .returned (.tuple #[.int .i64 (x.nodes : Int), .int .i64 (x.depth : Int)]) ∧ Below w.heap.size w w' := by
  refine Ex.ind fun d l ih => ?_
  intro d' A n c w hx his
  rw [is_mk] at his
  obtain ⟨rfl, rfl, ⟨hm, _⟩, his⟩ := his
  have hlen := len_nodesL l
  have hdn := depth_le_nodes (Ex.mk d' l)
  rw [depth_mk] at hdn
  rw [nodes_mk] at hx hdn
  obtain ⟨N, hN⟩ : ∃ N, nodesL l = N := ⟨_, rfl⟩
  obtain ⟨D, hD⟩ : ∃ D, depthL l = D := ⟨_, rfl⟩
  have e1 : ((Ex.mk d' l).nodes : Int) = ((1 + N : Nat) : Int) := by rw [nodes_mk, hN]
  have e2 : ((Ex.mk d' l).depth : Int) = ((D + 1 : Nat) : Int) := by rw [depth_mk, hD]
  rw [e1, e2]
  rw [hN] at hx hdn hlen
  rw [hD] at hdn
  clear e1 e2
  have HN := Lib.hid hN
  have HD := Lib.hid hD
  have HS := Lib.hid his
  have HI := Lib.hid ih
  clear hN hD his ih
  unfold maxLen at hm
  go_enter Tryz.func112, Tryz.ntmps112
  go_wp2_with fail
  go_loopw [4, 5, 7, 8, 9, 13] (fun cnt dp _ _ _ i wr => ∃ (k p q : Nat), i = .int .i64 k ∧ k ≤ l.length ∧ Below w.heap.size w wr ∧ cnt = .int .i64 (p : Int) ∧ dp = .int .i64 (q : Int) ∧ p = 1 + nodesL (l.take k) ∧ q = depthL (l.take k)) (fun _ _ _ _ _ i _ => l.length - (intOf i).toNat)
  case atStart => exact ⟨0, 1, 0, rfl, Nat.zero_le _, b_new _ _, rfl, rfl, by simp [nodesL_nil], by simp [depthL_nil]⟩
  case round =>
    obtain ⟨k, p, q, rfl, hk, hb, rfl, rfl, hp, hq⟩ := hrel
    have hpb : p ≤ 1 + N := by rw [hp, ← HN.out]; have := nodesL_take l k; omega
    have hqb : q ≤ D := by rw [hq, ← HD.out]; exact depthL_take l k
    have HP := Lib.hid hp
    have HQ := Lib.hid hq
    clear hp hq
    by_cases hlt : k < l.length
    · obtain ⟨a, d2, B, m, c2, rfl, hat, hi⟩ := HS.out k hlt
      obtain ⟨h0, h1, h2, h3, h4, h5⟩ := hat.below hb
      have hi2 := (hi.below hb).alloc (.cells #[.int .i64 d2.op, .int .i64 d2.k, .int .i64 d2.n, .string d2.s, .string d2.nm, .slice B m c2] 48)
      have hxn : l[k].nodes ≤ N := by rw [← HN.out]; exact nodes_mem (List.getElem_mem _)
      have hxd : l[k].depth ≤ D := by rw [← HD.out]; exact depth_mem (List.getElem_mem _)
      obtain ⟨s, hs⟩ : ∃ s, l[k].nodes = s := ⟨_, rfl⟩
      obtain ⟨t, ht⟩ : ∃ t, l[k].depth = t := ⟨_, rfl⟩
      have hp2 : p + s = 1 + nodesL (l.take (k + 1)) := by rw [nodesL_at l k hlt, HP.out, hs]; omega
      have hq2 : max q t = depthL (l.take (k + 1)) := by rw [depthL_at l k hlt, HQ.out, ht]
      have hpb2 : p + s ≤ 1 + N := by rw [hp2, ← HN.out]; have := nodesL_take l (k + 1); omega
      have hc := HI.out _ (List.getElem_mem hlt) d2 B m c2 _ (by omega) hi2
      rw [hs, ht] at hc
      rw [hs] at hxn
      rw [ht] at hxd
      have HC := Lib.hid hc
      have HP2 := Lib.hid hp2
      have HQ2 := Lib.hid hq2
      have HB := Lib.hid hb
      clear hc hp2 hq2 hs ht hi hi2 hat hb
      go_wp2_with fail
      refine HC.out.mono ?_; rintro e w2 ⟨rfl, hb2⟩
      have hb3 : Below w.heap.size w w2 := HB.out.trans ((b_then hb2).mono HB.out.size)
      have hcell := hb2.cell (p := ⟨w.heap.size, 5, none⟩) (by have := HB.out.size; simp; omega)
      have HB3 := Lib.hid hb3
      clear hb2 hb3 hcell
      go_wp2_with fail
      go_roundw
      case rel => exact ⟨k + 1, p + s, max q t, by go_num, by omega, HB3.out, by go_num, int_max q t, HP2.out, HQ2.out⟩
      case measure => simp [intOf]; omega
    · have hkl : k = l.length := by omega
      have hp2 : p = 1 + N := by rw [HP.out, hkl, List.take_length, HN.out]
      have hq2 : q = D := by rw [HQ.out, hkl, List.take_length, HD.out]
      have HP2 := Lib.hid hp2
      have HQ2 := Lib.hid hq2
      clear hkl hp2 hq2
      go_wp2_with fail
      go_ret2
      exact ⟨by rw [HP2.out, HQ2.out]; rfl, hb⟩
end Go.Proofs.YtdlfhldboagbeaaGreatDoor.ExL
namespace Go.Proofs.YtdlfhldboagbeaaGreatDoor.ExP
open Go.RowKit
open ExM Kit ExL
set_option linter.unusedVariables false

mutual
/-- In a world a formula lies behind these operands, all of it in blocks with a property. -/
def IsP (P : Nat → Prop) (w : World) : Ex → Nd → Option Addr → Nat → Prop
  | .mk d l, d', A, n => d' = d ∧ n = l.length ∧ (n ≤ maxLen ∧ d.s.size ≤ maxLen ∧ d.nm.size ≤ maxLen) ∧ IsPL P w A 0 l
def IsPL (P : Nat → Prop) (w : World) (A : Option Addr) : Nat → List Ex → Prop
  | _, [] => True
  | i, x :: l => (∃ a d B n c, A = some a ∧ P a.block ∧ At w (a.add (i * 6)) d B n c ∧ IsP P w x d B n) ∧ IsPL P w A (i + 1) l
end
theorem isPL_at {P : Nat → Prop} {w : World} {A : Option Addr} : ∀ {l : List Ex} {i : Nat}, IsPL P w A i l → ∀ (j : Nat) (h : j < l.length), ∃ a d B n c, A = some a ∧ P a.block ∧ At w (a.add ((i + j) * 6)) d B n c ∧ IsP P w l[j] d B n
  | [], _, _, j, h => absurd h (by simp)
  | x :: l, i, hl, j, h => by
    rw [IsPL] at hl
    match j, h with
    | 0, _ => exact hl.1
    | j + 1, h =>
      have := isPL_at hl.2 j (by simpa using h)
      rw [show i + 1 + j = i + (j + 1) by omega] at this
      exact this
theorem isPL_of {P : Nat → Prop} {w : World} {A : Option Addr} : ∀ {l : List Ex} {i : Nat}, (∀ (j : Nat) (h : j < l.length), ∃ a d B n c, A = some a ∧ P a.block ∧ At w (a.add ((i + j) * 6)) d B n c ∧ IsP P w l[j] d B n) → IsPL P w A i l
  | [], _, _ => by rw [IsPL]; trivial
  | x :: l, i, h => by
    rw [IsPL]
    refine ⟨h 0 (by simp), isPL_of fun j hj => ?_⟩
    have := h (j + 1) (by simpa using hj)
    rw [show i + (j + 1) = i + 1 + j by omega] at this
    exact this
theorem isP_mk {P : Nat → Prop} {w : World} {d d' : Nd} {l : List Ex} {A : Option Addr} {n : Nat} : IsP P w (.mk d l) d' A n ↔ d' = d ∧ n = l.length ∧ (n ≤ maxLen ∧ d.s.size ≤ maxLen ∧ d.nm.size ≤ maxLen) ∧ ∀ (j : Nat) (h : j < l.length), ∃ a d B n c, A = some a ∧ P a.block ∧ At w (a.add (j * 6)) d B n c ∧ IsP P w l[j] d B n := by
  rw [IsP]
  refine ⟨fun ⟨h1, h2, h3, h4⟩ => ⟨h1, h2, h3, fun j hj => by have := isPL_at h4 j hj; rwa [Nat.zero_add] at this⟩, fun ⟨h1, h2, h3, h4⟩ => ⟨h1, h2, h3, isPL_of fun j hj => by rw [Nat.zero_add]; exact h4 j hj⟩⟩
theorem IsP.is {P : Nat → Prop} {w : World} : ∀ (x : Ex) (d : Nd) (A : Option Addr) (n : Nat), IsP P w x d A n → Is w x d A n := by
  refine Ex.ind fun d l ih => ?_
  intro d' A n h
  rw [isP_mk] at h
  rw [is_mk]
  obtain ⟨h1, h2, h3, h4⟩ := h
  refine ⟨h1, h2, h3, fun j hj => ?_⟩
  obtain ⟨a, d2, B, m, c, e, _, ha, hi⟩ := h4 j hj
  exact ⟨a, d2, B, m, c, e, ha, ih _ (List.getElem_mem _) _ _ _ hi⟩
theorem At.of_block {w w' : World} {p : Addr} {d : Nd} {A : Option Addr} {n c : Nat} (h : At w p d A n c) (hb : w'.heap[p.block]? = w.heap[p.block]?) : At w' p d A n c :=
  h.keep fun q hq => World.cell?_of_block (by rw [hq]; exact hb)
/-- Where its blocks are kept, a formula is; and its blocks lie in the memory that there is. -/
theorem IsP.keep {P Q : Nat → Prop} {w w' : World} (hk : ∀ b, P b → b < w.heap.size → w'.heap[b]? = w.heap[b]?) (hq : ∀ b, P b → b < w.heap.size → Q b) : ∀ (x : Ex) (d : Nd) (A : Option Addr) (n : Nat), IsP P w x d A n → IsP Q w' x d A n := by
  refine Ex.ind fun d l ih => ?_
  intro d' A n h
  rw [isP_mk] at h ⊢
  obtain ⟨h1, h2, h3, h4⟩ := h
  refine ⟨h1, h2, h3, fun j hj => ?_⟩
  obtain ⟨a, d2, B, m, c, e, hp, ha, hi⟩ := h4 j hj
  have hlt := ha.lt
  rw [block_of_add] at hlt
  exact ⟨a, d2, B, m, c, e, hq _ hp hlt, At.of_block ha (by rw [block_of_add]; exact hk _ hp hlt), ih _ (List.getElem_mem _) _ _ _ hi⟩
theorem IsP.below {P : Nat → Prop} {w w' : World} {x : Ex} {d : Nd} {A : Option Addr} {n : Nat} (h : IsP P w x d A n) (hb : Below w.heap.size w w') : IsP P w' x d A n := IsP.keep (fun b _ hl => hb.block b hl) (fun _ h _ => h) x d A n h
theorem IsP.imp {P Q : Nat → Prop} {w : World} {x : Ex} {d : Nd} {A : Option Addr} {n : Nat} (h : IsP P w x d A n) (hq : ∀ b, P b → b < w.heap.size → Q b) : IsP Q w x d A n := IsP.keep (fun _ _ _ => rfl) hq x d A n h
theorem isP_leaf (P : Nat → Prop) (w : World) (d : Nd) (A : Option Addr) (hs : d.s.size ≤ maxLen) (hn : d.nm.size ≤ maxLen) : IsP P w (.mk d []) d A 0 := isP_mk.2 ⟨rfl, rfl, ⟨Nat.zero_le _, hs, hn⟩, fun j hj => absurd hj (by simp)⟩

/-- An element of a row of formulas. -/
structure El where
  x : Ex
  d : Nd
  A : Option Addr
  n : Nat
  c : Nat
def El.cells (e : El) : List Value := [.int .i64 e.d.op, .int .i64 e.d.k, .int .i64 e.d.n, .string e.d.s, .string e.d.nm, .slice e.A e.n e.c]
def elC (es : List El) : List Value := es.flatMap El.cells
theorem elC_snoc (es : List El) (e : El) : elC (es ++ [e]) = elC es ++ e.cells := by unfold elC; rw [List.flatMap_append]; simp
theorem elC_len (es : List El) : (elC es).length = es.length * 6 := by
  induction es with
  | nil => rfl
  | cons e es ih =>
    have : elC (e :: es) = e.cells ++ elC es := by unfold elC; rw [List.flatMap_cons]
    rw [this, List.length_append, ih, List.length_cons]; show 6 + _ = _; omega
theorem elC_at (es : List El) : ∀ (i : Nat) (h : i < es.length) (j : Nat), j < 6 → (elC es)[i * 6 + j]? = (es[i]).cells[j]? := by
  induction es with
  | nil => intro i h; simp at h
  | cons e es ih =>
    intro i h j hj
    have e1 : elC (e :: es) = e.cells ++ elC es := by unfold elC; rw [List.flatMap_cons]
    rw [e1]
    cases i with
    | zero => rw [List.getElem?_append_left (by simp [El.cells]; omega)]; simp
    | succ i =>
      rw [List.getElem?_append_right (by simp [El.cells]; omega), show (i + 1) * 6 + j - e.cells.length = i * 6 + j by simp [El.cells]; omega]
      simpa using ih i (by simpa using h) j hj
theorem add_block (g i : Nat) : ((⟨g, 0, none⟩ : Addr).add i) = ⟨g, i, none⟩ := by unfold Addr.add; by_cases h : i = 0 <;> simp [h]
/-- A row of the call's own whose elements lie in memory is a formula's operands. -/
theorem isP_row {P : Nat → Prop} {w : World} {d : Nd} {es : List El} {g : Nat} (hc : ∀ j, j < es.length * 6 → w.cell? ⟨g, j, none⟩ = (elC es)[j]?) (hP : P g) (hl : es.length ≤ maxLen) (hs : d.s.size ≤ maxLen) (hn : d.nm.size ≤ maxLen)
    (hi : ∀ e ∈ es, IsP P w e.x e.d e.A e.n) : IsP P w (.mk d (es.map El.x)) d (some ⟨g, 0, none⟩) es.length := by
  rw [isP_mk]
  refine ⟨rfl, by simp, ⟨hl, hs, hn⟩, fun j hj => ?_⟩
  have hj' : j < es.length := by simpa using hj
  have f := fun i (h6 : i < 6) => (hc (j * 6 + i) (by omega)).trans (elC_at es j hj' i h6)
  refine ⟨⟨g, 0, none⟩, es[j].d, es[j].A, es[j].n, es[j].c, rfl, hP, ?_, by simpa using hi es[j] (List.getElem_mem _)⟩
  rw [add_block]
  exact ⟨f 0 (by decide), f 1 (by decide), f 2 (by decide), f 3 (by decide), f 4 (by decide), f 5 (by decide)⟩
end Go.Proofs.YtdlfhldboagbeaaGreatDoor.ExP
namespace Go.Proofs.YtdlfhldboagbeaaGreatDoor.ExS
open Go.RowKit
open ExM Kit ExL
set_option linter.unusedVariables false

/-- What a comparison of formulas promises at these formulas. -/
def SameAt (g : FuncId) (x : Ex) : Prop := ∀ (d : Nd) (A A' : Option Addr) (n n' c c' : Nat) (W : World), Is W x d A n → Is W x d A' n' →
  Calls Tryz.prog g #[.agg #[.int .i64 d.op, .int .i64 d.k, .int .i64 d.n, .string d.s, .string d.nm, .slice A n c], .agg #[.int .i64 d.op, .int .i64 d.k, .int .i64 d.n, .string d.s, .string d.nm, .slice A' n' c']] W fun e w' => e = .returned (.bool true) ∧ Below W.heap.size W w'
def Row (w : World) (A : Option Addr) (l : List Ex) : Prop := ∀ (j : Nat) (h : j < l.length), ∃ a d B n c, A = some a ∧ At w (a.add (j * 6)) d B n c ∧ Is w l[j] d B n
theorem Row.below {w w' : World} {A : Option Addr} {l : List Ex} (h : Row w A l) (hb : Below w.heap.size w w') : Row w' A l := fun j hj => by
  obtain ⟨a, d, B, n, c, e, ha, hi⟩ := h j hj
  exact ⟨a, d, B, n, c, e, ha.below hb, hi.below hb⟩
theorem is_d {w : World} {x : Ex} {d : Nd} {A : Option Addr} {n : Nat} (h : Is w x d A n) : d = x.d := by
  cases x; rw [is_mk] at h; exact h.1

set_option maxRecDepth 100000 in
set_option maxHeartbeats 1000000 in
theorem lawEqf_any (l : List Ex) (hg : ∀ x ∈ l, SameAt 66 x) (A A' : Option Addr) (c c' : Nat) (w : World) (hn : l.length ≤ maxLen) (h1 : Row w A l) (h2 : Row w A' l) :
    Calls Tryz.prog 94 #[.slice A l.length c, .slice A' l.length c', .func (.func 66) #[] #[]] w fun e w' => e = .returned (.bool true) ∧ Below w.heap.size w w' := by
  have HG := Lib.hid hg
  have H1 := Lib.hid h1
  have H2 := Lib.hid h2
  clear hg h1 h2
  unfold maxLen at hn
  go_enter Tryz.func94, Tryz.ntmps94
  go_wp2_with fail
  go_loopw [7, 8, 9, 17] (fun _ _ _ i wr => ∃ k : Nat, k ≤ l.length ∧ i = .int .i64 k ∧ Below w.heap.size w wr) (fun _ _ _ i _ => l.length - (intOf i).toNat)
  case atStart => exact ⟨0, by omega, rfl, Below.refl _ _⟩
  case round =>
    obtain ⟨k, hk, rfl, hbw⟩ := hrel
    by_cases hlt : k < l.length
    · obtain ⟨a, d, B, n, c2, rfl, hat, hi⟩ := H1.out.below hbw k hlt
      obtain ⟨a', d', B', n', c2', rfl, hat', hi'⟩ := H2.out.below hbw k hlt
      obtain rfl : d = d' := (is_d hi).trans (is_d hi').symm
      obtain ⟨h0, h1, h2, h3, h4, h5⟩ := hat
      obtain ⟨g0, g1, g2, g3, g4, g5⟩ := hat'
      have hl := cell_lt' h0
      have hl' := cell_lt' g0
      have hc := fun V (hb : Below wr.heap.size wr V) => HG.out _ (List.getElem_mem hlt) d B B' n n' c2 c2' V (hi.below hb) (hi'.below hb)
      have HC := Lib.hid hc
      have HBW := Lib.hid hbw
      clear hc hbw hi hi'
      go_wp2_with fail
      refine (HC.out _ (b_more (b_new wr _) _)).mono ?_; rintro e w1 ⟨rfl, hb1⟩
      have hb2 : Below w.heap.size w w1 := HBW.out.trans ((b_then (b_then hb1)).mono HBW.out.size)
      have HB2 := Lib.hid hb2
      clear hb1 hb2 h0 h1 h2 h3 h4 h5 g0 g1 g2 g3 g4 g5
      go_wp2_with fail
      go_roundw
      case rel => exact ⟨k + 1, by omega, by go_num, HB2.out⟩
      case measure => simp [intOf]; omega
    · go_wp2_with fail
      go_ret
      exact ⟨rfl, hbw⟩

set_option maxHeartbeats 1000000 in
theorem lawSame_any : ∀ x : Ex, SameAt 66 x := by
  refine Ex.ind fun d l ih => ?_
  intro d' A A' n n' c c' W h h'
  rw [is_mk] at h h'
  obtain ⟨rfl, rfl, ⟨hm, _⟩, hr⟩ := h
  obtain ⟨_, rfl, _, hr'⟩ := h'
  have hc := fun V (hb : Below W.heap.size W V) => lawEqf_any l ih A A' c c' V hm (Row.below hr hb) (Row.below hr' hb)
  have HC := Lib.hid hc
  clear hc ih hr hr'
  go_enter Tryz.func66, Tryz.ntmps66
  go_wp2_with fail
  refine (HC.out _ (b_more (b_new W _) _)).mono ?_; rintro e w1 ⟨rfl, hb1⟩
  have HB1 := Lib.hid hb1
  clear hb1
  go_wp2_with fail
  go_ret
  exact ⟨rfl, b_then (b_then HB1.out)⟩
end Go.Proofs.YtdlfhldboagbeaaGreatDoor.ExS
