/- The reference's formula: climbing by precedence. The reference's formula, whole. The reference's ahead: a call's arguments, appended one by one. The reference's ahead: a call. -/
import Derived.Test.YtjjchbafobcofaaGreatDoorClMid
import Derived.Test.YtjjchbafobcofaaGreatDoorClMath
import Derived.Test.YtjjchbafobcofaaGreatDoorRegInv
import Derived.Deep.AppendLies
namespace Go.Proofs.YtjjchbafobcofaaGreatDoor.Cl
open Go.RowKit
open LexM ExM Kit ExL ExP PsM PsT NmC Ps PsR ClM
set_option linter.unusedVariables false

section
variable {w0 : World} {P : Nat} {A : Option Addr} {c : Nat} {L : List Tk} {w : World} {k : Nat}
theorem next_nxt (l : List Tk) : nextS l = nxt l := by cases l <;> rfl
/-- How far it is to the end of the tokens; nothing is left to a lost one. -/
def leftC (P n : Nat) (w : World) : Nat := match w.cell? ⟨P, 1, none⟩, w.cell? ⟨P, 2, none⟩ with | some (.int _ k), some (.bool false) => n - k.toNat + 1 | _, _ => 0
theorem left_ok {w : World} {k : Nat} (h : CSt w0 P A c L w k false) : leftC P L.length w = L.length - k + 1 := by
  unfold leftC; rw [h.at.2.1, h.at.2.2]; simp
theorem left_lost {w : World} {k : Nat} (h : CSt w0 P A c L w k true) : leftC P L.length w = 0 := by
  unfold leftC; rw [h.at.2.1, h.at.2.2]
structure CFI (w0 : World) (P : Nat) (A : Option Addr) (c : Nat) (L : List Tk) (w : World) (k : Nat) (X : Nat) (x : Ex) (d : Nd) (B : Option Addr) (m cp : Nat) (wr : World) (k' : Nat) (b : Bool) : Prop where
  box : wr.heap[X]? = some (.cells #[.int .i64 d.op, .int .i64 d.k, .int .i64 d.n, .string d.s, .string d.nm, .slice B m cp] 26 (0, 0))
  is : b = false → IsP (fun b => w.heap.size < b ∧ b ≠ X) wr x d B m ∧ k ≤ k'
  st : CSt w0 P A c L wr k' b
  res : Boxz wr w.heap.size
  grown : w.grownBy wr (some P)
  lt : w.heap.size < X
theorem CFI.keep {X : Nat} {x : Ex} {d : Nd} {B : Option Addr} {m cp : Nat} {wr w1 : World} {k' k2 : Nat} {b : Bool} (h : CFI w0 P A c L w k X x d B m cp wr k' b) (hl : P < w.heap.size) (hS : CSt w0 P A c L w1 k2 b) (hg : wr.grownBy w1 (some P)) (hk : k' ≤ k2) : CFI w0 P A c L w k X x d B m cp w1 k2 b :=
  ⟨(hg.block X (Array.getElem?_eq_some_iff.1 h.box).1 (fun e => by injection e with e; have := h.lt; omega)).trans h.box,
   fun hb => ⟨IsP.keep (fun b hb hlt => hg.block b hlt (fun e => by injection e with e; have := hb.1; omega)) (fun _ hb _ => hb) _ _ _ _ (h.is hb).1, Nat.le_trans (h.is hb).2 hk⟩, hS, boxz_grown h.res hg (by omega), grown_trans h.grown hg, h.lt⟩
/-- Both operands in a new row, and the operator in the box; or it is lost. -/
theorem CFI.step {X : Nat} {x : Ex} {d : Nd} {B : Option Addr} {m cp : Nat} {wr w2 : World} {k1 k2 op : Nat} {p0 p1 p2 : Int} {p3 p4 : ByteArray} {p5 : Option Addr} {pm pc : Nat} {b' : Bool} {y : Ex} (h : CFI w0 P A c L w k X x d B m cp wr k1 false) (hl : P < w.heap.size) (hP : w0.heap.size ≤ P) (hS : CSt w0 P A c L w2 k2 b') (hg : wr.grownBy w2 (some P)) (hy : b' = false → k1 ≤ k2 ∧ IsP (fun b => wr.heap.size ≤ b) w2 y ⟨p0, p1, p2, p3, p4⟩ p5 pm) :
    CFI w0 P A c L w k X (opN op [x, y]) ⟨(op : Int), 0, 0, ⟨#[]⟩, ⟨#[]⟩⟩ (some ⟨w2.heap.size, 0, none⟩) 2 2 (S6 (w2.alloc (.cells #[.int .i64 d.op, .int .i64 d.k, .int .i64 d.n, .string d.s, .string d.nm, .slice B m cp, .int .i64 p0, .int .i64 p1, .int .i64 p2, .string p3, .string p4, .slice p5 pm pc] 26)) X (.int .i64 (op : Int)) (.int .i64 0) (.int .i64 0) (.string ⟨#[]⟩) (.string ⟨#[]⟩) (.slice (some ⟨w2.heap.size, 0, none⟩) 2 2)) k2 b' := by
  have hXr := (Array.getElem?_eq_some_iff.1 h.box).1
  have hX2 : w2.heap[X]? = wr.heap[X]? := hg.block X hXr (fun e => by injection e with e; have := h.lt; omega)
  have hXl : X < w2.heap.size := by have := hg.size; omega
  have hwr := h.grown.size
  have hs2 := hg.size
  obtain ⟨W, hW⟩ : ∃ W, w2.alloc (.cells #[.int .i64 d.op, .int .i64 d.k, .int .i64 d.n, .string d.s, .string d.nm, .slice B m cp, .int .i64 p0, .int .i64 p1, .int .i64 p2, .string p3, .string p4, .slice p5 pm pc] 26) = W := ⟨_, rfl⟩
  have hbn : Below w2.heap.size w2 W := by rw [← hW]; exact b_new _ _
  have hnew : W.heap[w2.heap.size]? = some (.cells #[.int .i64 d.op, .int .i64 d.k, .int .i64 d.n, .string d.s, .string d.nm, .slice B m cp, .int .i64 p0, .int .i64 p1, .int .i64 p2, .string p3, .string p4, .slice p5 pm pc] 26 (0, 0)) := by rw [← hW]; exact World.alloc_heap_new w2 _
  have hsW : W.heap.size = w2.heap.size + 1 := by rw [← hW]; simp
  rw [hW]
  have hh := fun b (hb : b ≠ X) => s6_heap W X b hb (.int .i64 (op : Int)) (.int .i64 0) (.int .i64 0) (.string ⟨#[]⟩) (.string ⟨#[]⟩) (.slice (some ⟨w2.heap.size, 0, none⟩) 2 2)
  have hgS := s6_grown W X (.int .i64 (op : Int)) (.int .i64 0) (.int .i64 0) (.string ⟨#[]⟩) (.string ⟨#[]⟩) (.slice (some ⟨w2.heap.size, 0, none⟩) 2 2)
  have hwl := h.lt
  have hSW := hS.keep hbn
  have hlP := hSW.lt
  have hres2 := boxz_grown h.res hg (by omega)
  refine ⟨set6_box ((hbn.block X hXl).trans (hX2.trans h.box)) _ _ _ _ _ _, fun hb => ?_, ⟨(hh P (by omega)).trans hSW.prs, ?_, hS.le⟩, ?_, ?_, h.lt⟩
  · obtain ⟨hk, hyy⟩ := hy hb
    obtain ⟨hx1, hk1⟩ := h.is rfl
    have hxW : IsP (fun b => w.heap.size < b ∧ b ≠ X) W x d B m := IsP.below (IsP.keep (fun b hb hlt => hg.block b hlt (fun e => by injection e with e; have := hb.1; omega)) (fun _ hb _ => hb) _ _ _ _ hx1) hbn
    have hyW : IsP (fun b => w.heap.size < b ∧ b ≠ X) W y ⟨p0, p1, p2, p3, p4⟩ p5 pm := (IsP.below hyy hbn).imp fun b hb _ => by have h1 : wr.heap.size ≤ b := hb; exact ⟨by omega, by omega⟩
    have hrow : IsP (fun b => w.heap.size < b ∧ b ≠ X) W (opN op [x, y]) ⟨(op : Int), 0, 0, ⟨#[]⟩, ⟨#[]⟩⟩ (some ⟨w2.heap.size, 0, none⟩) 2 := by
      have := isP_row (P := fun b => w.heap.size < b ∧ b ≠ X) (w := W) (d := ⟨(op : Int), 0, 0, ⟨#[]⟩, ⟨#[]⟩⟩) (es := [⟨x, d, B, m, cp⟩, ⟨y, ⟨p0, p1, p2, p3, p4⟩, p5, pm, pc⟩]) (g := w2.heap.size) (fun j hj => by unfold World.cell?; rw [hnew]; simp [elC, El.cells]) ⟨by omega, by omega⟩ (by unfold maxLen; simp) (Nat.zero_le _) (Nat.zero_le _) (fun e he => by
        simp at he
        rcases he with rfl | rfl
        · exact hxW
        · exact hyW)
      exact this
    exact ⟨IsP.keep (fun b hb _ => hh b hb.2) (fun _ hb _ => hb) _ _ _ _ hrow, by omega⟩
  · exact hSW.below.grown hgS hSW.below.size (fun j e => by injection e with e; have := h.st.below.size; omega)
  · exact (hh _ (by omega)).trans (boxz_keep hres2 hbn)
  · refine ⟨hgS.os.trans (hbn.os.trans (hg.os.trans h.grown.os)), hgS.tape.trans (hbn.tape.trans (hg.tape.trans h.grown.tape)), hgS.output.trans (hbn.output.trans (hg.output.trans h.grown.output)), by rw [s6_size]; omega, fun b hb hne => (hh b (by omega)).trans ((hbn.block b (by omega)).trans ((hg.block b (by omega) hne).trans (h.grown.block b hb hne)))⟩
/-- The box's formula, stored as the result. -/
theorem CFI.done {X : Nat} {x : Ex} {d : Nd} {B : Option Addr} {m cp : Nat} {wr : World} {k' : Nat} (h : CFI w0 P A c L w k X x d B m cp wr k' false) (hw0 : w0.heap.size ≤ w.heap.size) (lP : P < w.heap.size) :
    EndsC w0 P A c L w k (.ok [x] (L.drop k')) (.returned (.agg #[.int .i64 d.op, .int .i64 d.k, .int .i64 d.n, .string d.s, .string d.nm, .slice B m cp])) (S6 wr w.heap.size (.int .i64 d.op) (.int .i64 d.k) (.int .i64 d.n) (.string d.s) (.string d.nm) (.slice B m cp)) := by
  obtain ⟨r1, r2⟩ := fin6 h.st h.grown hw0 lP (.int .i64 d.op) (.int .i64 d.k) (.int .i64 d.n) (.string d.s) (.string d.nm) (.slice B m cp)
  obtain ⟨hx, hk⟩ := h.is rfl
  have hh := fun b (hb : b ≠ w.heap.size) => s6_heap wr w.heap.size b hb (.int .i64 d.op) (.int .i64 d.k) (.int .i64 d.n) (.string d.s) (.string d.nm) (.slice B m cp)
  exact ⟨d, B, m, cp, k', rfl, IsP.keep (fun b hb _ => hh b (by have := hb.1; omega)) (fun b hb _ => by have := hb.1; show w.heap.size ≤ b; omega) _ _ _ _ hx, rfl, hk, r1, r2⟩
/-- Nothing, stored as the result of a lost one. -/
theorem CFI.lost {X : Nat} {x : Ex} {d : Nd} {B : Option Addr} {m cp : Nat} {wr : World} {k' : Nat} (h : CFI w0 P A c L w k X x d B m cp wr k' true) (hw0 : w0.heap.size ≤ w.heap.size) (lP : P < w.heap.size) :
    EndsC w0 P A c L w k (.bad (L.drop k')) (.returned (.agg #[.int .i64 0, .int .i64 0, .int .i64 0, .string ⟨#[]⟩, .string ⟨#[]⟩, .slice none 0 0])) (S6 wr w.heap.size (.int .i64 0) (.int .i64 0) (.int .i64 0) (.string ⟨#[]⟩) (.string ⟨#[]⟩) (.slice none 0 0)) := by
  obtain ⟨r1, r2⟩ := fin6 h.st h.grown hw0 lP (.int .i64 0) (.int .i64 0) (.int .i64 0) (.string ⟨#[]⟩) (.string ⟨#[]⟩) (.slice none 0 0)
  exact ⟨_, k', rfl, ⟨_, _, _, _, _, _, _, _, rfl⟩, rfl, r1, r2⟩
/-- Behind ahead: the first formula in a new box. -/
theorem CFI.first {V w3 : World} {p0 p1 p2 : Int} {p3 p4 : ByteArray} {p5 : Option Addr} {pm pc k' : Nat} {b' : Bool} {x : Ex} (gV : w.grownBy V (some P)) (sV : V.heap.size = w.heap.size + 1) (hz : Boxz V w.heap.size) (lP : P < w.heap.size) (hS3 : CSt w0 P A c L w3 k' b') (hg3 : V.grownBy w3 (some P)) (hx : b' = false → k ≤ k' ∧ IsP (fun b => V.heap.size ≤ b) w3 x ⟨p0, p1, p2, p3, p4⟩ p5 pm) :
    CFI w0 P A c L w k w3.heap.size x ⟨p0, p1, p2, p3, p4⟩ p5 pm pc (w3.alloc (.cells #[.int .i64 p0, .int .i64 p1, .int .i64 p2, .string p3, .string p4, .slice p5 pm pc] 26)) k' b' := by
  have hb4 := b_new w3 (.cells #[.int .i64 p0, .int .i64 p1, .int .i64 p2, .string p3, .string p4, .slice p5 pm pc] 26)
  have hs := hg3.size
  refine ⟨World.alloc_heap_new w3 _, fun hb => ?_, hS3.keep hb4, boxz_keep (boxz_grown hz hg3 (by omega)) hb4, grown_trans gV (grown_trans hg3 (grown_below hb4 _)), by omega⟩
  obtain ⟨hk, hi⟩ := hx hb
  exact ⟨IsP.keep (fun b _ hb => (hb4.block b hb)) (fun b hb hlt => ⟨by have h1 : V.heap.size ≤ b := hb; omega, by omega⟩) _ _ _ _ hi, hk⟩

set_option maxRecDepth 100000 in
set_option maxHeartbeats 16000000 in
theorem formula_lost (hE : CEnv w0 P A L) (hS : CSt w0 P A c L w k true) (q : Int) :
    Calls Tryz.prog 11 #[.pointer (some ⟨P, 0, none⟩), .int .i64 q] w (BadC w0 P A c L w (L.drop k)) := by
  obtain ⟨V, hV⟩ : ∃ V, w.alloc (.cells #[.int .i64 0, .int .i64 0, .int .i64 0, .string ⟨#[]⟩, .string ⟨#[]⟩, .slice none 0 0] 26) = V := ⟨_, rfl⟩
  have hb : Below w.heap.size w V := by rw [← hV]; exact b_new _ _
  have sV : V.heap.size = w.heap.size + 1 := by rw [← hV]; simp
  have hz : Boxz V w.heap.size := by rw [← hV]; exact boxz_at w
  have hA := ahead_lost hE (hS.keep hb)
  have HA := Lib.hid hA
  have HV := Lib.hid hV
  have HZ := Lib.hid hz
  have HG := Lib.hid (grown_below hb (some P))
  have lP := hS.lt
  have HB0 := Lib.hid hS.below.size
  clear hA hV hz hb hS hE
  go_enter Tryz.func11, Tryz.ntmps11
  go_upto_region 1 with fail
  rw [HV.out]
  go_wp2_with fail
  refine HA.out.mono ?_
  rintro e w3 ⟨v, k', rfl, ⟨p0, p1, p2, p3, p4, p5, pm, pc, rfl⟩, hr, hS3, hg3⟩
  have hI := CFI.first (k := k) (pc := pc) (x := .mk ⟨0, 0, 0, ⟨#[]⟩, ⟨#[]⟩⟩ []) HG.out sV HZ.out lP hS3 hg3 (p0 := p0) (p1 := p1) (p2 := p2) (p3 := p3) (p4 := p4) (p5 := p5) (pm := pm) (fun e => Bool.noConfusion e)
  obtain ⟨W4, hW4⟩ : ∃ W4, w3.alloc (.cells #[.int .i64 p0, .int .i64 p1, .int .i64 p2, .string p3, .string p4, .slice p5 pm pc] 26) = W4 := ⟨_, rfl⟩
  rw [hW4] at hI
  have hend := hI.lost HB0.out lP
  rw [← hr] at hend
  obtain ⟨c1, f1⟩ := cells_of hI.box
  obtain ⟨z1, z2⟩ := cells_of hI.res
  obtain ⟨h0, h1, h2⟩ := hI.st.at
  have HW4 := Lib.hid hW4
  have HEnd := Lib.hid hend
  clear hend hW4 hI hS3 hg3 hr HA HZ HG
  go_upto_region 2 with fail
  rw [HW4.out]
  go_wp2_with fail
  go_loopw [6, 7, 8, 9, 10, 11, 12] (fun _ _ _ _ _ _ _ wr => wr = W4) (fun _ _ _ _ _ _ _ _ => 0)
  case atStart => rfl
  case round =>
    subst hrel
    go_wp2_with fail
    refine bodyPost_ret (v := .agg #[.int .i64 0, .int .i64 0, .int .i64 0, .string ⟨#[]⟩, .string ⟨#[]⟩, .slice none 0 0]) (by simp [results, Tryz.results11, go_sem, z1]) rfl HEnd.out
end
end Go.Proofs.YtjjchbafobcofaaGreatDoor.Cl
namespace Go.Proofs.YtjjchbafobcofaaGreatDoor.Cl
open Go.RowKit
open LexM ExM Kit ExL ExP PsM PsT NmC Ps PsR ClM
set_option linter.unusedVariables false

section
variable {w0 : World} {P : Nat} {A : Option Addr} {c : Nat} {L : List Tk} {w : World} {k : Nat}
theorem prec_nat (j : Nat) (h5 : 5 ≤ j) (h16 : j ≤ 16) : ∃ p : Nat, (rwP j).2.1 = (p : Int) ∧ p < 5 := by
  obtain h | h | h | h | h | h | h | h | h | h | h | h : j = 5 ∨ j = 6 ∨ j = 7 ∨ j = 8 ∨ j = 9 ∨ j = 10 ∨ j = 11 ∨ j = 12 ∨ j = 13 ∨ j = 14 ∨ j = 15 ∨ j = 16 := by omega
  all_goals subst h; exact ⟨_, rfl, by decide⟩

theorem after_op {q hh j p k1 k2 S : Nat} {b2 : Bool} {x : Ex} {o oy : Out} {w5 : World} {d : Nd} {p5 : Option Addr} {pm : Nat} (hoy : Ev (.form (p + 1)) (L.drop k1) oy) (hb : ∀ r', Ev (.form (p + 1)) (L.drop k1) (.bad r') → o = .bad r') (hc : ∀ y r', Ev (.form (p + 1)) (L.drop k1) (.ok [y] r') → Ch q hh (opN j [x, y]) r' o)
    (hres : (b2 = true ∧ oy = .bad (L.drop k2)) ∨ (b2 = false ∧ k1 ≤ k2 ∧ ∃ x, oy = .ok [x] (L.drop k2) ∧ IsP (fun b => S ≤ b) w5 x d p5 pm)) :
    ∃ y, (b2 = false → k1 ≤ k2 ∧ IsP (fun b => S ≤ b) w5 y d p5 pm) ∧ (b2 = true → o = .bad (L.drop k2)) ∧ (b2 = false → Ch q hh (opN j [x, y]) (L.drop k2) o) := by
  rcases hres with ⟨rfl, rfl⟩ | ⟨rfl, h1, y, rfl, h2⟩
  · exact ⟨x, fun e => Bool.noConfusion e, fun _ => hb _ hoy, fun e => Bool.noConfusion e⟩
  · exact ⟨y, fun _ => ⟨h1, h2⟩, fun e => Bool.noConfusion e, fun _ => hc _ _ hoy⟩
theorem left_lt {W : World} {k1 k2 : Nat} {b : Bool} (h : CSt w0 P A c L W k2 b) (h1 : k1 < L.length) (hk : b = false → k1 + 1 ≤ k2) : leftC P L.length W < L.length - k1 + 1 := by
  cases b with
  | true => rw [left_lost h]; omega
  | false => rw [left_ok h]; have := hk rfl; omega
theorem fnd_step (q hd : Nat) (s : List UInt8) (j p : Nat) (h5 : 5 ≤ j) (hp : (rwP j).2.1 = (p : Int)) : fnd q hd s (j + 1) = if (rwP j).1 = s ∧ q ≤ p ∧ p + 1 < hd then j else fnd q hd s j := by
  rw [fnd]
  have e : (5 ≤ j ∧ okOp q hd s j = true) ↔ ((rwP j).1 = s ∧ q ≤ p ∧ p + 1 < hd) := by
    unfold okOp
    rw [hp]
    simp only [Bool.and_eq_true, decide_eq_true_eq]
    constructor
    · rintro ⟨_, ⟨h1, h2⟩, h3⟩; exact ⟨h1, by omega, by omega⟩
    · rintro ⟨h1, h2, h3⟩; exact ⟨h5, ⟨h1, by omega⟩, by omega⟩
  by_cases g : (rwP j).1 = s ∧ q ≤ p ∧ p + 1 < hd
  · rw [if_pos g, if_pos (e.2 g)]
  · rw [if_neg g, if_neg (fun h => g (e.1 h))]

set_option maxRecDepth 100000 in
set_option maxHeartbeats 32000000 in
theorem formula_any (hE : CEnv w0 P A L) (hQ : ∀ t ∈ L, t.kind = 3 → ∃ u, t.s = 34 :: u) (hS : CSt w0 P A c L w k false) (q : Nat) (hq : q ≤ 5) (o : Out) (ho : Ev (.form q) (L.drop k) o)
    (hA : ∀ W o5, Ev (.form 5) (L.drop k) o5 → CSt w0 P A c L W k false → Calls Tryz.prog 25 #[.pointer (some ⟨P, 0, none⟩)] W (EndsC w0 P A c L W k o5))
    (hF : ∀ k' q' o' W, k < k' → k' ≤ L.length → q' ≤ 5 → Ev (.form q') (L.drop k') o' → CSt w0 P A c L W k' false → Calls Tryz.prog 11 #[.pointer (some ⟨P, 0, none⟩), .int .i64 ((q' : Int) + 1)] W (EndsC w0 P A c L W k' o')) :
    Calls Tryz.prog 11 #[.pointer (some ⟨P, 0, none⟩), .int .i64 ((q : Int) + 1)] w (EndsC w0 P A c L w k o) := by
  obtain ⟨V, hV⟩ : ∃ V, w.alloc (.cells #[.int .i64 0, .int .i64 0, .int .i64 0, .string ⟨#[]⟩, .string ⟨#[]⟩, .slice none 0 0] 26) = V := ⟨_, rfl⟩
  have hb : Below w.heap.size w V := by rw [← hV]; exact b_new _ _
  have sV : V.heap.size = w.heap.size + 1 := by rw [← hV]; simp
  have hz : Boxz V w.heap.size := by rw [← hV]; exact boxz_at w
  obtain ⟨o5, ho5, _⟩ := form_ex 5 (Nat.le_refl _) (L.drop k)
  have hA1 := hA V o5 ho5 (hS.keep hb)
  have HA := Lib.hid hA1
  have HV := Lib.hid hV
  have HZ := Lib.hid hz
  have HG := Lib.hid (grown_below hb (some P))
  have lP := hS.lt
  have HB0 := Lib.hid hS.below.size
  have HE := Lib.hid hE
  have HF := Lib.hid hF
  have HQ := Lib.hid hQ
  have HO := Lib.hid (And.intro ho ho5)
  clear hA hA1 hV hz hb hS hE hF hQ ho ho5
  go_enter Tryz.func11, Tryz.ntmps11
  go_upto_region 1 with fail
  rw [HV.out]
  go_wp2_with fail
  refine HA.out.mono ?_
  intro e w3 he
  obtain ⟨p0, p1, p2, p3, p4, p5, pm, pc, k1, b1, rfl, hS3, hg3, hres⟩ := parts_of he
  obtain ⟨x1, hx1, hb1, hc1⟩ : ∃ x : Ex, (b1 = false → k ≤ k1 ∧ IsP (fun b => V.heap.size ≤ b) w3 x ⟨p0, p1, p2, p3, p4⟩ p5 pm) ∧ (b1 = true → o = .bad (L.drop k1)) ∧ (b1 = false → Ch q (min 5 (8 - 1)) x (L.drop k1) o) := by
    rcases hres with ⟨rfl, rfl⟩ | ⟨rfl, hk1, x, rfl, hix⟩
    · exact ⟨.mk ⟨0, 0, 0, ⟨#[]⟩, ⟨#[]⟩⟩ [], fun e => Bool.noConfusion e, fun _ => form_bad5 hq HO.out.2 HO.out.1, fun e => Bool.noConfusion e⟩
    · exact ⟨x, fun _ => ⟨hk1, hix⟩, fun e => Bool.noConfusion e, fun _ => form_chain hq HO.out.2 HO.out.1⟩
  have hI := CFI.first (k := k) (pc := pc) HG.out sV HZ.out lP hS3 hg3 hx1
  obtain ⟨W4, hW4⟩ : ∃ W4, w3.alloc (.cells #[.int .i64 p0, .int .i64 p1, .int .i64 p2, .string p3, .string p4, .slice p5 pm pc] 26) = W4 := ⟨_, rfl⟩
  rw [hW4] at hI
  have HW4 := Lib.hid hW4
  have HI1 := Lib.hid hI
  have HC1 := Lib.hid (And.intro hb1 hc1)
  obtain ⟨X, hX⟩ : ∃ X, w3.heap.size = X := ⟨_, rfl⟩
  have HX := Lib.hid hX
  clear hW4 hI hS3 hg3 hres HA HZ HG he hx1 hb1 hc1 hX
  go_upto_region 2 with fail
  rw [HW4.out, HX.out]
  rw [HX.out] at HI1
  go_wp2_with fail
  go_loopw [6, 7, 8, 9, 10, 11, 12] (fun s6 _ _ _ _ _ _ wr => ∃ (x : Ex) (d : Nd) (B : Option Addr) (m cp k' hd : Nat) (b : Bool), s6 = .int .i64 (hd : Int) ∧ hd ≤ 8 ∧ CFI w0 P A c L w k X x d B m cp wr k' b ∧ (b = true → o = .bad (L.drop k')) ∧ (b = false → Ch q (min 5 (hd - 1)) x (L.drop k') o)) (fun _ _ _ _ _ _ _ wr => leftC P L.length wr)
  case atStart => exact ⟨x1, _, p5, pm, pc, k1, 8, b1, rfl, Nat.le_refl _, HI1.out, HC1.out.1, HC1.out.2⟩
  case round =>
    clear HI1 HC1
    obtain ⟨x, d, B, m, cp, k', hd, b, rfl, hd8, hI, hbad, hch⟩ := hrel
    obtain ⟨c1, f1⟩ := cells_of hI.box
    obtain ⟨z1, z2⟩ := cells_of hI.res
    obtain ⟨h0, h1, h2⟩ := hI.st.at
    cases b with
    | true =>
      obtain rfl := hbad rfl
      have hend := hI.lost HB0.out lP
      have HEnd := Lib.hid hend
      clear hend hI hbad hch HO
      go_wp2_with fail
      refine bodyPost_ret (v := .agg #[.int .i64 0, .int .i64 0, .int .i64 0, .string ⟨#[]⟩, .string ⟨#[]⟩, .slice none 0 0]) (by simp [results, Tryz.results11, go_sem, z1]) rfl HEnd.out
    | false =>
      have hleft := left_ok hI.st
      have HI := Lib.hid hI
      have HCh := Lib.hid (hch rfl)
      clear hI hbad hch f1 z1 z2 c1
      go_wp2_with fail
      go_loopw [7, 8, 9, 10] (fun s7 s8 _ _ wr2 => ∃ (j : Nat), 5 ≤ j ∧ j ≤ 17 ∧ s8 = .int .i64 (j : Int) ∧ s7 = .int .i64 ((fnd q hd (nxt (L.drop k')) j : Nat) : Int) ∧ CFI w0 P A c L w k X x d B m cp wr2 k' false) (fun _ s8 _ _ _ => 17 - (intOf s8).toNat)
      case atStart => exact ⟨5, by omega, by omega, rfl, by rw [fnd_low _ _ _ 5 (Nat.le_refl _)]; rfl, HI.out⟩
      case round =>
        clear HI
        obtain ⟨j, h5, h17, rfl, rfl, hI2⟩ := hrel
        by_cases hj : j ≤ 16
        · have t1 : (j : Int) ≤ 16 := by omega
          obtain ⟨p, hp, hp5⟩ := prec_nat j h5 hj
          have hcl := fun W => close_any j h5 hj W
          rw [hp] at hcl
          have hnx := next_c HE.out hI2.st
          rw [next_nxt] at hnx
          have hw1 : IntKind.i64.wrap ((j : Int) + 1) = (j : Int) + 1 := IntWalk.i64_in _ (by omega)
          have hstep := fnd_step q hd (nxt (L.drop k')) j p h5 hp
          obtain ⟨sj, hsj⟩ : ∃ s : ByteArray, (⟨(rwP j).1.toArray⟩ : ByteArray) = s := ⟨_, rfl⟩
          obtain ⟨sn, hsn⟩ : ∃ s : ByteArray, (⟨(nxt (L.drop k')).toArray⟩ : ByteArray) = s := ⟨_, rfl⟩
          have hsl : sn.data.toList = nxt (L.drop k') := by rw [← hsn]
          have hbq := fun b h => beq_bytes (rwP j).1 sn b h
          rw [hsl, hsj] at hbq
          rw [hsj] at hcl
          rw [hsn] at hnx
          have HCl := Lib.hid hcl
          have HN := Lib.hid hnx
          have HI2 := Lib.hid hI2
          obtain ⟨F0, hF0⟩ : ∃ F0, fnd q hd (nxt (L.drop k')) j = F0 := ⟨_, rfl⟩
          obtain ⟨F1, hF1⟩ : ∃ F1, fnd q hd (nxt (L.drop k')) (j + 1) = F1 := ⟨_, rfl⟩
          rw [hF0, hF1] at hstep
          rw [hF0]
          have HF1 := Lib.hid hF1
          have hmore : ∀ wx, (∃ mm, wx = wr.drewN mm) → True := fun _ _ => trivial
          have h4 : ((sj.toList == sn.toList) = true ∧ (q : Int) + 1 ≤ (p : Int) + 1 ∧ (p : Int) + 1 < (hd : Int) ∧ F1 = j) ∨ ((sj.toList == sn.toList) = false ∧ F1 = F0) ∨ ((sj.toList == sn.toList) = true ∧ ¬ (q : Int) + 1 ≤ (p : Int) + 1 ∧ F1 = F0) ∨ ((sj.toList == sn.toList) = true ∧ (q : Int) + 1 ≤ (p : Int) + 1 ∧ ¬ (p : Int) + 1 < (hd : Int) ∧ F1 = F0) := by
            by_cases g1 : (rwP j).1 = nxt (L.drop k')
            · have b1 := hbq true (decide_eq_true g1)
              by_cases g2 : q ≤ p
              · by_cases g3 : p + 1 < hd
                · exact .inl ⟨b1, by omega, by omega, by rw [hstep, if_pos ⟨g1, g2, g3⟩]⟩
                · exact .inr (.inr (.inr ⟨b1, by omega, by omega, by rw [hstep, if_neg (fun h => g3 h.2.2)]⟩))
              · exact .inr (.inr (.inl ⟨b1, by omega, by rw [hstep, if_neg (fun h => g2 h.2.1)]⟩))
            · exact .inr (.inl ⟨hbq false (decide_eq_false g1), by rw [hstep, if_neg (fun h => g1 h.1)]⟩)
          clear hcl hnx hI2 hstep hbq hsj hsn hsl hF0 hF1 hp hmore hleft
          rcases h4 with ⟨b1, b2, b3, eF⟩ | ⟨b1, eF⟩ | ⟨b1, b2, eF⟩ | ⟨b1, b2, b3, eF⟩
          all_goals
            have HeF := Lib.hid eF
            clear eF
            go_wp2_with fail
            refine (HCl.out _).mono ?_; rintro e wx ⟨rfl, rfl⟩
            go_wp2_with fail
            refine HN.out.mono ?_; rintro e wx ⟨rfl, mm, rfl⟩
            have hI3 := HI2.out.keep lP (HI2.out.st.drew mm) (grown_below (b_drewN (Below.refl _ _) mm) (some P)) (Nat.le_refl _)
            have HI3 := Lib.hid hI3
            clear hI3
            go_wp2_with fail
            go_roundw
            case rel => exact ⟨j + 1, by omega, by omega, by go_num, by rw [HF1.out, HeF.out], HI3.out⟩
            case measure => simp [intOf]; omega
        · have hj17 : j = 17 := by omega
          subst hj17
          have t1 : ¬ ((17 : Nat) : Int) ≤ 16 := by omega
          obtain ⟨F, hF⟩ : ∃ F, fnd q hd (nxt (L.drop k')) 17 = F := ⟨_, rfl⟩
          rw [hF]
          by_cases hF0 : F = 0
          · subst hF0
            have hno := step_none (fun t ht => HQ.out t (List.mem_of_mem_drop ht)) HCh.out hF
            subst hno
            obtain ⟨c1, f1⟩ := cells_of hI2.box
            obtain ⟨z1, z2⟩ := cells_of hI2.res
            have hn1 : X ≠ w.heap.size := by have := hI2.lt; omega
            have hend := hI2.done HB0.out lP
            have HEnd := Lib.hid hend
            clear hend hI2 hF hleft HCh HO
            go_wp2_with fail
            refine bodyPost_ret (v := .agg #[.int .i64 d.op, .int .i64 d.k, .int .i64 d.n, .string d.s, .string d.nm, .slice B m cp]) (by simp [results, Tryz.results11, go_sem, z1]) rfl HEnd.out
          · obtain ⟨p, t, r, hts, g5, g16, hp, hp5, hbO, hcO⟩ := step_op HCh.out hF hF0
            obtain ⟨hk', ht, hr⟩ := drop_cons hts
            subst hr
            have t2 : ((F : Int) == 0) = false := beq_eq_false_iff_ne.2 (by omega)
            have hcl := fun W => close_any F g5 g16 W
            rw [hp] at hcl
            obtain ⟨sj, hsj⟩ : ∃ s : ByteArray, (⟨(rwP F).1.toArray⟩ : ByteArray) = s := ⟨_, rfl⟩
            rw [hsj] at hcl
            obtain ⟨oy, hoy, _⟩ := form_ex (p + 1) (by omega) (L.drop (k' + 1))
            have hlen := HE.out.len
            have hw1 : IntKind.i64.wrap ((k' : Int) + 1) = (k' : Int) + 1 := IntWalk.i64_in _ (by omega)
            have hw2 : IntKind.i64.wrap ((p : Int) + 1 + 1) = (p : Int) + 1 + 1 := IntWalk.i64_in _ (by omega)
            obtain ⟨h0, h1, h2⟩ := hI2.st.at
            have hfz := hI2.st.frozen 1
            obtain ⟨w4, hw4⟩ : ∃ w4, wr.setCell ⟨P, 1, none⟩ (.int .i64 ((k' : Int) + 1)) = w4 := ⟨_, rfl⟩
            have hI4 := hI2.keep lP (hI2.st.took HE.out.hP hk') (grown_set _ P 1 (.int .i64 ((k' : Int) + 1))) (Nat.le_succ _)
            rw [hw4] at hI4
            have hkk := (hI2.is rfl).2
            have hcc : ∀ W, Below w4.heap.size w4 W → Calls Tryz.prog 11 #[.pointer (some ⟨P, 0, none⟩), .int .i64 ((p : Int) + 1 + 1)] W (EndsC w0 P A c L W (k' + 1) oy) := fun W hW => by
              have := HF.out (k' + 1) (p + 1) oy W (by omega) hk' (by omega) hoy (hI4.st.keep hW)
              rw [show (((p + 1 : Nat)) : Int) + 1 = (p : Int) + 1 + 1 from rfl] at this; exact this
            have haft := fun (S k2 : Nat) (b2 : Bool) (w5 : World) (d' : Nd) (B' : Option Addr) (m' : Nat) (hres : (b2 = true ∧ oy = .bad (L.drop k2)) ∨ (b2 = false ∧ k' + 1 ≤ k2 ∧ ∃ x, oy = .ok [x] (L.drop k2) ∧ IsP (fun b => S ≤ b) w5 x d' B' m')) => after_op hoy hbO hcO hres
            have HC := Lib.hid hcc
            have HAft := Lib.hid haft
            have HCl := Lib.hid hcl
            have HW5 := Lib.hid hw4
            have HI4 := Lib.hid hI4
            have hbl := Below.refl w4.heap.size w4
            obtain ⟨y1, y2⟩ := cells_of hI4.box
            have y3 := (Array.getElem?_eq_some_iff.1 hI4.box).1
            have hleft' := hleft
            have HL := Lib.hid hleft'
            clear hcc haft hcl hw4 hI4 hI2 hF hts hoy hbO hcO ht hsj hleft hleft' HCh HO hlen
            go_upto_region 14 with fail
            rw [HW5.out]
            clear h0 h1 h2 hfz
            go_wp2_with fail
            refine (HCl.out _).mono ?_; rintro e wx ⟨rfl, rfl⟩
            go_upto_region 15 with fail
            go_cut [] (fun wx => ∃ (y : Ex) (g k2 : Nat) (b2 : Bool), CFI w0 P A c L w k X (opN F [x, y]) ⟨(F : Int), 0, 0, ⟨#[]⟩, ⟨#[]⟩⟩ (some ⟨g, 0, none⟩) 2 2 wx k2 b2 ∧ (b2 = true → o = .bad (L.drop k2)) ∧ (b2 = false → k' + 1 ≤ k2) ∧ (b2 = false → Ch q (min 5 ((if p = 2 then 3 else p + 2) - 1)) (opN F [x, y]) (L.drop k2) o))
            case first =>
              go_region_with (go_at_call 11; (with_reducible refine (HC.out _ ?_).mono ?_); (first | exact hbl | exact b_drew hbl); intro e w5 he; obtain ⟨p0, p1, p2, p3, p4, p5', pm, pc, k2, b2, rfl, hS5, hg5, hres⟩ := parts_of he; obtain ⟨y, hy, hyb, hyc⟩ := HAft.out _ _ _ _ _ _ _ hres; have hg6 : w4.grownBy w5 (some P) := (by first | exact hg5 | exact grown_trans (grown_below (b_drew (Below.refl _ _)) _) hg5); have hN := HI4.out.step (op := F) (pc := pc) (y := y) lP HE.out.hP hS5 hg6 hy; have hX5 := (hg6.block X y3 (fun e => by injection e with e; have := HI4.out.lt; omega)).trans HI4.out.box; obtain ⟨x1, x2⟩ := cells_of hX5; have x3 := (Array.getElem?_eq_some_iff.1 hX5).1; rw [PsF.s6_alloc _ _ _ x3] at hN; unfold S6 at hN; have HN := Lib.hid (And.intro hyb (And.intro (fun e => (hy e).1) (And.intro hyc hN))); clear hN hg6 hy hS5 hg5 hX5 hyb hyc hres he)
              all_goals (go_wp2_with fail; go_meet)
              all_goals (with_reducible exact ⟨y, w5.heap.size, k2, b2, HN.out.2.2.2, HN.out.1, HN.out.2.1, HN.out.2.2.1⟩)
            case rest =>
              obtain ⟨y, g, k2, b2, hI6, hb6, hk6, hc6⟩ := hcut
              have hm := left_lt hI6.st hk' hk6
              have HM := Lib.hid hm
              have HI6 := Lib.hid hI6
              have HC6 := Lib.hid (And.intro hb6 hc6)
              clear hm hI6 hb6 hk6 hc6 y1 y2 y3 HC HAft HCl HI4
              by_cases hp2 : p = 2
              · have t7 : ((p : Int) + 1 == 3) = true := beq_iff_eq.2 (by omega)
                go_wp2_with fail
                go_roundw
                case rel => exact ⟨_, _, _, 2, 2, k2, 3, b2, by go_num, by omega, HI6.out, HC6.out.1, fun e => by have := HC6.out.2 e; rw [if_pos hp2] at this; exact this⟩
                case measure => rw [HL.out]; exact HM.out
              · have t7 : ((p : Int) + 1 == 3) = false := beq_eq_false_iff_ne.2 (by omega)
                go_wp2_with fail
                go_roundw
                case rel => exact ⟨_, _, _, 2, 2, k2, p + 2, b2, by go_num, by omega, HI6.out, HC6.out.1, fun e => by have := HC6.out.2 e; rw [if_neg hp2] at this; exact this⟩
                case measure => rw [HL.out]; exact HM.out
end
end Go.Proofs.YtjjchbafobcofaaGreatDoor.Cl
namespace Go.Proofs.YtjjchbafobcofaaGreatDoor.Cl
open Go.RowKit
open LexM ExM Kit ExL ExP PsM PsT NmC Ps PsR ClM RegI
set_option linter.unusedVariables false

section
variable {w0 : World} {P : Nat} {A : Option Addr} {c : Nat} {L : List Tk} {w : World} {k : Nat}
/-- What the box's call has so far. -/
structure CL (w0 : World) (P : Nat) (A : Option Addr) (c : Nat) (L : List Tk) (w : World) (k : Nat) (X : Nat) (op : Int) (es : List El) (v : Value) (wr : World) (k' : Nat) (b : Bool) : Prop where
  own : wr.ownsRow (X + 1) 26 6 v es.length (elC es)
  is : b = false → (∀ e ∈ es, IsP (fun b => X < b ∧ some b ≠ v.ownBlock) wr e.x e.d e.A e.n) ∧ k ≤ k'
  box : wr.heap[X]? = some (.cells #[.int .i64 op, .int .i64 0, .int .i64 0, .string ⟨#[]⟩, .string ⟨#[]⟩, v] 26 (0, 0))
  st : CSt w0 P A c L wr k' b
  res : Boxz wr w.heap.size
  grown : w.grownBy wr (some P)
  lt : w.heap.size < X
theorem CL.far {X : Nat} {op : Int} {es : List El} {v : Value} {wr : World} {k' : Nat} {b : Bool} (h : CL w0 P A c L w k X op es v wr k' b) {j : Nat} (hj : j ≤ X) : v.ownBlock ≠ some j := fun e => by
  have := (h.own.lt j e).1; omega
theorem CL.keep {X : Nat} {op : Int} {es : List El} {v : Value} {wr w1 : World} {k' k2 : Nat} {b b2 : Bool} (h : CL w0 P A c L w k X op es v wr k' b) (hl : P < w.heap.size) (hS : CSt w0 P A c L w1 k2 b2) (hg : wr.grownBy w1 (some P)) (hk : b2 = false → b = false ∧ k' ≤ k2) : CL w0 P A c L w k X op es v w1 k2 b2 := by
  have hlt := h.lt
  refine ⟨h.own.kept hg (.inr (h.far (by omega))), fun e => ?_, (hg.block X (Array.getElem?_eq_some_iff.1 h.box).1 (fun e => by injection e with e; omega)).trans h.box, hS, boxz_grown h.res hg (by omega), grown_trans h.grown hg, hlt⟩
  obtain ⟨e1, e2⟩ := hk e
  obtain ⟨h1, h2⟩ := h.is e1
  exact ⟨fun e he => IsP.keep (fun b hb hlt => hg.block b hlt (fun e => by injection e with e; have := hb.1; omega)) (fun _ hb _ => hb) _ _ _ _ (h1 e he), by omega⟩
/-- What comes behind so many arguments. -/
def Cont (n : Nat) (xs : List Ex) (r : List Tk) (o : Out) : Prop :=
  if xs.length = 0 then Ev (.list n []) r o
  else if xs.length < n then (isNext [44] r = true → Ev (.list n xs) r.tail o) ∧ (isNext [44] r = false → o = .bad r)
  else (isNext [41] r = true → o = .ok xs r.tail) ∧ (isNext [41] r = false → o = .bad r)
theorem cont_step {n : Nat} {xs : List Ex} {ts r : List Tk} {x : Ex} {o : Out} (h : Ev (.list n xs) ts o) (hy : Ev (.form 0) ts (.ok [x] r)) (hn : xs.length < n) : Cont n (xs ++ [x]) r o := by
  unfold Cont
  rw [List.length_append, List.length_singleton, if_neg (by omega)]
  split
  · rename_i hl
    refine ⟨fun hc => ?_, fun hc => h.unique (ev_list_more_bad hy hl hc)⟩
    obtain ⟨o2, h2⟩ := list_ex n (xs ++ [x]) r.tail
    rw [h.unique (ev_list_more hy hl hc h2)]; exact h2
  · rename_i hl
    exact ⟨fun hc => h.unique (ev_list_last hy hl hc), fun hc => h.unique (ev_list_last_bad hy hl hc)⟩
theorem cont_bad {n : Nat} {xs : List Ex} {ts r : List Tk} {o : Out} (h : Ev (.list n xs) ts o) (hy : Ev (.form 0) ts (.bad r)) : o = .bad r := h.unique (ev_list_bad hy)

theorem slice_one (w : World) (p0 p1 p2 : Int) (p3 p4 : ByteArray) (p5 : Option Addr) (pm pc : Nat) : (Instr.buildSlice 24 1 #[(0, .agg #[.int .i64 p0, .int .i64 p1, .int .i64 p2, .string p3, .string p4, .slice p5 pm pc])]).run Tryz.prog w = .ok (.slice (some ⟨w.heap.size, 0, none⟩) 1 1) (w.alloc (.cells #[.int .i64 p0, .int .i64 p1, .int .i64 p2, .string p3, .string p4, .slice p5 pm pc] 26)) := by kernel_rfl
/-! ### One argument more -/
/-- What the call of formula has left. -/
def Got (w0 : World) (P : Nat) (A : Option Addr) (c : Nat) (L : List Tk) (W4 : World) (k1 : Nat) (oy : Out) (p0 p1 p2 : Int) (p3 p4 : ByteArray) (p5 : Option Addr) (pm pc k2 : Nat) (b2 : Bool) (w5 : World) : Prop :=
  CSt w0 P A c L w5 k2 b2 ∧ W4.grownBy w5 (some P) ∧ ((b2 = true ∧ oy = .bad (L.drop k2)) ∨ (b2 = false ∧ k1 ≤ k2 ∧ ∃ x, oy = .ok [x] (L.drop k2) ∧ IsP (fun b => W4.heap.size ≤ b) w5 x ⟨p0, p1, p2, p3, p4⟩ p5 pm))
def App (X : Nat) (es : List El) (v : Value) (p0 p1 p2 : Int) (p3 p4 : ByteArray) (p5 : Option Addr) (pm pc : Nat) (w5 : World) (g cap : Nat) (w6 : World) : Prop :=
  w6.ownsRow (X + 1) 26 6 (.slice (some ⟨g, 0, none⟩) (es.length + 1) cap) (es.length + 1) (elC es ++ [.int .i64 p0, .int .i64 p1, .int .i64 p2, .string p3, .string p4, .slice p5 pm pc]) ∧ (w5.alloc (.cells #[.int .i64 p0, .int .i64 p1, .int .i64 p2, .string p3, .string p4, .slice p5 pm pc] 26)).grownBy w6 v.ownBlock ∧ (v.ownBlock = some g ∨ g = w5.heap.size + 1) ∧ g < w6.heap.size
/-- Whatever has been carried out. -/
def JC (w0 : World) (P : Nat) (A : Option Addr) (c : Nat) (L : List Tk) (W4 : World) (k1 : Nat) (oy : Out) (X : Nat) (es : List El) (v : Value) (D : Nat → Bool) (f : Nat → Value) (w : World) : Prop :=
  (D 0 = true → f 0 = .pointer (some ⟨X, 5, none⟩)) ∧ (D 1 = true → f 1 = v) ∧ (D 2 = true → f 2 = .pointer (some ⟨P, 0, none⟩)) ∧ (D 6 = true → f 6 = .pointer (some ⟨X, 5, none⟩)) ∧
  ((D 3 = false ∧ D 4 = false ∧ D 5 = false ∧ D 7 = false ∧ Below W4.heap.size W4 w) ∨
   (D 3 = true ∧ D 4 = false ∧ D 5 = false ∧ D 7 = false ∧ ∃ p0 p1 p2 p3 p4 p5 pm pc k2 b2, f 3 = .agg #[.int .i64 p0, .int .i64 p1, .int .i64 p2, .string p3, .string p4, .slice p5 pm pc] ∧ Got w0 P A c L W4 k1 oy p0 p1 p2 p3 p4 p5 pm pc k2 b2 w) ∨
   (D 3 = true ∧ D 4 = true ∧ D 5 = false ∧ D 7 = false ∧ ∃ p0 p1 p2 p3 p4 p5 pm pc k2 b2 w5, Got w0 P A c L W4 k1 oy p0 p1 p2 p3 p4 p5 pm pc k2 b2 w5 ∧ f 4 = .slice (some ⟨w5.heap.size, 0, none⟩) 1 1 ∧ w = w5.alloc (.cells #[.int .i64 p0, .int .i64 p1, .int .i64 p2, .string p3, .string p4, .slice p5 pm pc] 26)) ∨
   (D 1 = true ∧ D 3 = true ∧ D 4 = true ∧ D 5 = true ∧ D 7 = false ∧ ∃ p0 p1 p2 p3 p4 p5 pm pc k2 b2 w5 g cap, Got w0 P A c L W4 k1 oy p0 p1 p2 p3 p4 p5 pm pc k2 b2 w5 ∧ App X es v p0 p1 p2 p3 p4 p5 pm pc w5 g cap w ∧ f 5 = .slice (some ⟨g, 0, none⟩) (es.length + 1) cap) ∨
   (D 1 = true ∧ D 3 = true ∧ D 4 = true ∧ D 5 = true ∧ D 7 = true ∧ ∃ p0 p1 p2 p3 p4 p5 pm pc k2 b2 w5 g cap w6, Got w0 P A c L W4 k1 oy p0 p1 p2 p3 p4 p5 pm pc k2 b2 w5 ∧ App X es v p0 p1 p2 p3 p4 p5 pm pc w5 g cap w6 ∧ w = w6.setCell ⟨X, 5, none⟩ (.slice (some ⟨g, 0, none⟩) (es.length + 1) cap)))
theorem jc_pure {W4 : World} {k1 : Nat} {oy : Out} {X : Nat} {es : List El} {v : Value} {D : Nat → Bool} {f : Nat → Value} {w : World} (h : JC w0 P A c L W4 k1 oy X es v D f w) (i : Nat) (x : Value) (hi : (i = 0 ∧ x = .pointer (some ⟨X, 5, none⟩)) ∨ (i = 1 ∧ x = v) ∨ (i = 2 ∧ x = .pointer (some ⟨P, 0, none⟩)) ∨ (i = 6 ∧ x = .pointer (some ⟨X, 5, none⟩))) :
    JC w0 P A c L W4 k1 oy X es v (upd D i) (updf f i x) w := by
  obtain ⟨h0, h1, h2, h6, hp⟩ := h
  have hD : ∀ j, j ≠ i → upd D i j = D j := fun j hj => upd_ne _ _ _ hj
  have hf : ∀ j, j ≠ i → updf f i x j = f j := fun j hj => updf_ne _ _ _ _ hj
  have hu : ∀ j, D j = true → upd D i j = true := fun j hj => by by_cases e : j = i; · subst e; exact upd_at _ _
                                                                 · rw [hD j e]; exact hj
  have n3 : 3 ≠ i := by omega
  have n4 : 4 ≠ i := by omega
  have n5 : 5 ≠ i := by omega
  have n7 : 7 ≠ i := by omega
  refine ⟨?_, ?_, ?_, ?_, ?_⟩
  · intro g
    by_cases e : (0 : Nat) = i
    · subst e; rw [updf_at]; rcases hi with ⟨_, e⟩ | ⟨e', _⟩ | ⟨e', _⟩ | ⟨e', _⟩ <;> first | exact e | omega
    · rw [hf 0 e]; rw [hD 0 e] at g; exact h0 g
  · intro g
    by_cases e : (1 : Nat) = i
    · subst e; rw [updf_at]; rcases hi with ⟨e', _⟩ | ⟨_, e⟩ | ⟨e', _⟩ | ⟨e', _⟩ <;> first | exact e | omega
    · rw [hf 1 e]; rw [hD 1 e] at g; exact h1 g
  · intro g
    by_cases e : (2 : Nat) = i
    · subst e; rw [updf_at]; rcases hi with ⟨e', _⟩ | ⟨e', _⟩ | ⟨_, e⟩ | ⟨e', _⟩ <;> first | exact e | omega
    · rw [hf 2 e]; rw [hD 2 e] at g; exact h2 g
  · intro g
    by_cases e : (6 : Nat) = i
    · subst e; rw [updf_at]; rcases hi with ⟨e', _⟩ | ⟨e', _⟩ | ⟨e', _⟩ | ⟨_, e⟩ <;> first | exact e | omega
    · rw [hf 6 e]; rw [hD 6 e] at g; exact h6 g
  · rw [hD 3 n3, hD 4 n4, hD 5 n5, hD 7 n7, hf 3 n3, hf 4 n4, hf 5 n5]
    rcases hp with h | h | h | ⟨e, h⟩ | ⟨e, h⟩
    · exact .inl h
    · exact .inr (.inl h)
    · exact .inr (.inr (.inl h))
    · exact .inr (.inr (.inr (.inl ⟨hu 1 e, h⟩)))
    · exact .inr (.inr (.inr (.inr ⟨hu 1 e, h⟩)))
section
variable {W4 w6 : World} {k1 : Nat} {oy : Out} {X : Nat} {es : List El} {v : Value} {D : Nat → Bool} {f : Nat → Value} {op : Int} {k' : Nat} {b : Bool}
/-- The rest of the frame, when operation i (no pure one) is done. -/
theorem jc_rest (h : JC w0 P A c L W4 k1 oy X es v D f w) (i : Nat) (x : Value) (hi : i = 3 ∨ i = 4 ∨ i = 5 ∨ i = 7) (hf : ∀ j, j ≠ i → updf f i x j = f j) : (upd D i 0 = true → updf f i x 0 = .pointer (some ⟨X, 5, none⟩)) ∧ (upd D i 1 = true → updf f i x 1 = v) ∧ (upd D i 2 = true → updf f i x 2 = .pointer (some ⟨P, 0, none⟩)) ∧ (upd D i 6 = true → updf f i x 6 = .pointer (some ⟨X, 5, none⟩)) := by
  obtain ⟨h0, h1, h2, h6, _⟩ := h
  refine ⟨?_, ?_, ?_, ?_⟩
  · rw [hf 0 (by omega), upd_ne _ _ _ (by omega)]; exact h0
  · rw [hf 1 (by omega), upd_ne _ _ _ (by omega)]; exact h1
  · rw [hf 2 (by omega), upd_ne _ _ _ (by omega)]; exact h2
  · rw [hf 6 (by omega), upd_ne _ _ _ (by omega)]; exact h6
theorem jc_start (f : Nat → Value) : JC w0 P A c L W4 k1 oy X es v (fun _ => false) f W4.drew :=
  ⟨fun h => Bool.noConfusion h, fun h => Bool.noConfusion h, fun h => Bool.noConfusion h, fun h => Bool.noConfusion h, .inl ⟨rfl, rfl, rfl, rfl, Below.drew (Below.refl _ _)⟩⟩
theorem jc_call (h : JC w0 P A c L W4 k1 oy X es v D f w) (h3 : D 3 = false) : D 4 = false ∧ D 5 = false ∧ D 7 = false ∧ Below W4.heap.size W4 w := by
  obtain ⟨_, _, _, _, hp⟩ := h
  rcases hp with ⟨_, a, b, c, d⟩ | ⟨e, _⟩ | ⟨e, _⟩ | ⟨_, e, _⟩ | ⟨_, e, _⟩
  · exact ⟨a, b, c, d⟩
  all_goals rw [h3] at e; cases e
theorem jc_called (h : JC w0 P A c L W4 k1 oy X es v D f w) (h3 : D 3 = false) {p0 p1 p2 : Int} {p3 p4 : ByteArray} {p5 : Option Addr} {pm pc k2 : Nat} {b2 : Bool} {w5 : World} (hg : Got w0 P A c L W4 k1 oy p0 p1 p2 p3 p4 p5 pm pc k2 b2 w5) :
    JC w0 P A c L W4 k1 oy X es v (upd D 3) (updf f 3 (.agg #[.int .i64 p0, .int .i64 p1, .int .i64 p2, .string p3, .string p4, .slice p5 pm pc])) w5 := by
  obtain ⟨h4, h5, h7, _⟩ := jc_call h h3
  obtain ⟨r0, r1, r2, r6⟩ := jc_rest h 3 (.agg #[.int .i64 p0, .int .i64 p1, .int .i64 p2, .string p3, .string p4, .slice p5 pm pc]) (.inl rfl) (fun j hj => updf_ne _ _ _ _ hj)
  exact ⟨r0, r1, r2, r6, .inr (.inl ⟨upd_at _ _, (upd_ne _ _ _ (by omega)).trans h4, (upd_ne _ _ _ (by omega)).trans h5, (upd_ne _ _ _ (by omega)).trans h7, p0, p1, p2, p3, p4, p5, pm, pc, k2, b2, updf_at _ _ _, hg⟩)⟩
theorem jc_got (h : JC w0 P A c L W4 k1 oy X es v D f w) (h3 : D 3 = true) (h4 : D 4 = false) : D 5 = false ∧ D 7 = false ∧ ∃ p0 p1 p2 p3 p4 p5 pm pc k2 b2, f 3 = .agg #[.int .i64 p0, .int .i64 p1, .int .i64 p2, .string p3, .string p4, .slice p5 pm pc] ∧ Got w0 P A c L W4 k1 oy p0 p1 p2 p3 p4 p5 pm pc k2 b2 w := by
  obtain ⟨_, _, _, _, hp⟩ := h
  rcases hp with ⟨e, _⟩ | ⟨_, _, a, b, r⟩ | ⟨_, e, _⟩ | ⟨_, _, e, _⟩ | ⟨_, _, e, _⟩
  · rw [h3] at e; cases e
  · exact ⟨a, b, r⟩
  all_goals rw [h4] at e; cases e
theorem jc_built (h : JC w0 P A c L W4 k1 oy X es v D f w) (h3 : D 3 = true) (h4 : D 4 = false) {p0 p1 p2 : Int} {p3 p4 : ByteArray} {p5 : Option Addr} {pm pc k2 : Nat} {b2 : Bool} (hg : Got w0 P A c L W4 k1 oy p0 p1 p2 p3 p4 p5 pm pc k2 b2 w) :
    JC w0 P A c L W4 k1 oy X es v (upd D 4) (updf f 4 (.slice (some ⟨w.heap.size, 0, none⟩) 1 1)) (w.alloc (.cells #[.int .i64 p0, .int .i64 p1, .int .i64 p2, .string p3, .string p4, .slice p5 pm pc] 26)) := by
  obtain ⟨h5, h7, _⟩ := jc_got h h3 h4
  obtain ⟨r0, r1, r2, r6⟩ := jc_rest h 4 (.slice (some ⟨w.heap.size, 0, none⟩) 1 1) (.inr (.inl rfl)) (fun j hj => updf_ne _ _ _ _ hj)
  exact ⟨r0, r1, r2, r6, .inr (.inr (.inl ⟨(upd_ne _ _ _ (by omega)).trans h3, upd_at _ _, (upd_ne _ _ _ (by omega)).trans h5, (upd_ne _ _ _ (by omega)).trans h7, p0, p1, p2, p3, p4, p5, pm, pc, k2, b2, w, hg, updf_at _ _ _, rfl⟩))⟩
theorem jc_slice (h : JC w0 P A c L W4 k1 oy X es v D f w) (h4 : D 4 = true) (h5 : D 5 = false) : D 3 = true ∧ D 7 = false ∧ ∃ p0 p1 p2 p3 p4 p5 pm pc k2 b2 w5, Got w0 P A c L W4 k1 oy p0 p1 p2 p3 p4 p5 pm pc k2 b2 w5 ∧ f 4 = .slice (some ⟨w5.heap.size, 0, none⟩) 1 1 ∧ w = w5.alloc (.cells #[.int .i64 p0, .int .i64 p1, .int .i64 p2, .string p3, .string p4, .slice p5 pm pc] 26) := by
  obtain ⟨_, _, _, _, hp⟩ := h
  rcases hp with ⟨_, e, _⟩ | ⟨_, e, _⟩ | ⟨a, _, _, b, r⟩ | ⟨_, _, _, e, _⟩ | ⟨_, _, _, e, _⟩
  · rw [h4] at e; cases e
  · rw [h4] at e; cases e
  · exact ⟨a, b, r⟩
  all_goals rw [h5] at e; cases e
theorem jc_appended (h : JC w0 P A c L W4 k1 oy X es v D f w) (h1 : D 1 = true) (h4 : D 4 = true) (h5 : D 5 = false) {p0 p1 p2 : Int} {p3 p4 : ByteArray} {p5 : Option Addr} {pm pc k2 : Nat} {b2 : Bool} {w5 : World} {g cap : Nat} (hg : Got w0 P A c L W4 k1 oy p0 p1 p2 p3 p4 p5 pm pc k2 b2 w5) (ha : App X es v p0 p1 p2 p3 p4 p5 pm pc w5 g cap w6) :
    JC w0 P A c L W4 k1 oy X es v (upd D 5) (updf f 5 (.slice (some ⟨g, 0, none⟩) (es.length + 1) cap)) w6 := by
  obtain ⟨h3, h7, _⟩ := jc_slice h h4 h5
  obtain ⟨r0, r1, r2, r6⟩ := jc_rest h 5 (.slice (some ⟨g, 0, none⟩) (es.length + 1) cap) (.inr (.inr (.inl rfl))) (fun j hj => updf_ne _ _ _ _ hj)
  exact ⟨r0, r1, r2, r6, .inr (.inr (.inr (.inl ⟨(upd_ne _ _ _ (by omega)).trans h1, (upd_ne _ _ _ (by omega)).trans h3, (upd_ne _ _ _ (by omega)).trans h4, upd_at _ _, (upd_ne _ _ _ (by omega)).trans h7, p0, p1, p2, p3, p4, p5, pm, pc, k2, b2, w5, g, cap, hg, ha, updf_at _ _ _⟩)))⟩
theorem jc_app (h : JC w0 P A c L W4 k1 oy X es v D f w) (h5 : D 5 = true) (h7 : D 7 = false) : D 1 = true ∧ D 3 = true ∧ D 4 = true ∧ ∃ p0 p1 p2 p3 p4 p5 pm pc k2 b2 w5 g cap, Got w0 P A c L W4 k1 oy p0 p1 p2 p3 p4 p5 pm pc k2 b2 w5 ∧ App X es v p0 p1 p2 p3 p4 p5 pm pc w5 g cap w ∧ f 5 = .slice (some ⟨g, 0, none⟩) (es.length + 1) cap := by
  obtain ⟨_, _, _, _, hp⟩ := h
  rcases hp with ⟨_, _, e, _⟩ | ⟨_, _, e, _⟩ | ⟨_, _, e, _⟩ | ⟨a, b, c, _, _, r⟩ | ⟨_, _, _, _, e, _⟩
  · rw [h5] at e; cases e
  · rw [h5] at e; cases e
  · rw [h5] at e; cases e
  · exact ⟨a, b, c, r⟩
  · rw [h7] at e; cases e
theorem jc_stored (h : JC w0 P A c L W4 k1 oy X es v D f w) (h5 : D 5 = true) (h7 : D 7 = false) {p0 p1 p2 : Int} {p3 p4 : ByteArray} {p5 : Option Addr} {pm pc k2 : Nat} {b2 : Bool} {w5 : World} {g cap : Nat} (hg : Got w0 P A c L W4 k1 oy p0 p1 p2 p3 p4 p5 pm pc k2 b2 w5) (ha : App X es v p0 p1 p2 p3 p4 p5 pm pc w5 g cap w) :
    JC w0 P A c L W4 k1 oy X es v (upd D 7) f (w.setCell ⟨X, 5, none⟩ (.slice (some ⟨g, 0, none⟩) (es.length + 1) cap)) := by
  obtain ⟨h1, h3, h4, _⟩ := jc_app h h5 h7
  obtain ⟨r0, r1, r2, r6, _⟩ := h
  exact ⟨fun e => r0 (by rw [upd_ne _ _ _ (by omega)] at e; exact e), fun e => r1 (by rw [upd_ne _ _ _ (by omega)] at e; exact e), fun e => r2 (by rw [upd_ne _ _ _ (by omega)] at e; exact e), fun e => r6 (by rw [upd_ne _ _ _ (by omega)] at e; exact e),
    .inr (.inr (.inr (.inr ⟨(upd_ne _ _ _ (by omega)).trans h1, (upd_ne _ _ _ (by omega)).trans h3, (upd_ne _ _ _ (by omega)).trans h4, (upd_ne _ _ _ (by omega)).trans h5, upd_at _ _, p0, p1, p2, p3, p4, p5, pm, pc, k2, b2, w5, g, cap, w, hg, ha, rfl⟩)))⟩
theorem jc_end (h : JC w0 P A c L W4 k1 oy X es v D f w) (h7 : D 7 = true) : ∃ p0 p1 p2 p3 p4 p5 pm pc k2 b2 w5 g cap w6, Got w0 P A c L W4 k1 oy p0 p1 p2 p3 p4 p5 pm pc k2 b2 w5 ∧ App X es v p0 p1 p2 p3 p4 p5 pm pc w5 g cap w6 ∧ w = w6.setCell ⟨X, 5, none⟩ (.slice (some ⟨g, 0, none⟩) (es.length + 1) cap) := by
  obtain ⟨_, _, _, _, hp⟩ := h
  rcases hp with ⟨_, _, _, e, _⟩ | ⟨_, _, _, e, _⟩ | ⟨_, _, _, e, _⟩ | ⟨_, _, _, _, e, _⟩ | ⟨_, _, _, _, _, r⟩
  · rw [h7] at e; cases e
  · rw [h7] at e; cases e
  · rw [h7] at e; cases e
  · rw [h7] at e; cases e
  · exact r
theorem jc_d7 (h : JC w0 P A c L W4 k1 oy X es v D f w) (h1 : D 1 = false) : D 7 = false := by
  obtain ⟨_, _, _, _, hp⟩ := h
  rcases hp with ⟨_, _, _, e, _⟩ | ⟨_, _, _, e, _⟩ | ⟨_, _, _, e, _⟩ | ⟨_, _, _, _, e, _⟩ | ⟨e, _⟩
  · exact e
  · exact e
  · exact e
  · exact e
  · rw [h1] at e; cases e
theorem got_of {w' w5 : World} {p0 p1 p2 : Int} {p3 p4 : ByteArray} {p5 : Option Addr} {pm pc k2 : Nat} {b2 : Bool} (hb : Below W4.heap.size W4 w') (hS : CSt w0 P A c L w5 k2 b2) (hg : w'.grownBy w5 (some P)) (hres : (b2 = true ∧ oy = .bad (L.drop k2)) ∨ (b2 = false ∧ k1 ≤ k2 ∧ ∃ x, oy = .ok [x] (L.drop k2) ∧ IsP (fun b => w'.heap.size ≤ b) w5 x ⟨p0, p1, p2, p3, p4⟩ p5 pm)) :
    Got w0 P A c L W4 k1 oy p0 p1 p2 p3 p4 p5 pm pc k2 b2 w5 := by
  refine ⟨hS, grown_trans (grown_below hb (some P)) hg, ?_⟩
  rcases hres with h | ⟨e1, e2, x, e3, hx⟩
  · exact .inl h
  · exact .inr ⟨e1, e2, x, e3, hx.imp fun b hb' _ => by have h1 : w'.heap.size ≤ b := hb'; have := hb.size; show W4.heap.size ≤ b; omega⟩
/-- The block of the box, till the store. -/
theorem app_box {w' : World} (hC : CL w0 P A c L w' k X op es v W4 k' b) (hl : P < w'.heap.size) {p0 p1 p2 : Int} {p3 p4 : ByteArray} {p5 : Option Addr} {pm pc k2 : Nat} {b2 : Bool} {w5 : World} {g cap : Nat} (hg : Got w0 P A c L W4 k1 oy p0 p1 p2 p3 p4 p5 pm pc k2 b2 w5) (ha : App X es v p0 p1 p2 p3 p4 p5 pm pc w5 g cap w6) (j : Nat) (hj : j ≤ X) (hjP : j ≠ P) (hlt : j < W4.heap.size) : w6.heap[j]? = W4.heap[j]? := by
  have h1 := hg.2.1.block j hlt (fun e => hjP (by injection e with e))
  have hs := hg.2.1.size
  exact (ha.2.1.block j (by simp; omega) (fun e => hC.far hj e.symm)).trans (((b_new w5 _).block j (by omega)).trans h1)
theorem jc_cell {w' : World} (hC : CL w0 P A c L w' k X op es v W4 k' b) (hl : P < w'.heap.size) (h : JC w0 P A c L W4 k1 oy X es v D f w) (h7 : D 7 = false) : w.cell? ⟨X, 5, none⟩ = some v ∧ w.frozen? ⟨X, 5, none⟩ = false := by
  have hXW := (Array.getElem?_eq_some_iff.1 hC.box).1
  have hXP : X ≠ P := by have := hC.lt; omega
  have key : w.heap[X]? = W4.heap[X]? → w.cell? ⟨X, 5, none⟩ = some v ∧ w.frozen? ⟨X, 5, none⟩ = false := fun e => by
    have e := e.trans hC.box
    exact ⟨by simp [World.cell?, e], by simp [World.frozen?, e]⟩
  obtain ⟨_, _, _, _, hp⟩ := h
  rcases hp with ⟨_, _, _, _, hb⟩ | ⟨_, _, _, _, p0, p1, p2, p3, p4, p5, pm, pc, k2, b2, _, hg⟩ | ⟨_, _, _, _, p0, p1, p2, p3, p4, p5, pm, pc, k2, b2, w5, hg, _, rfl⟩ | ⟨_, _, _, _, _, p0, p1, p2, p3, p4, p5, pm, pc, k2, b2, w5, g, cap, hg, ha, _⟩ | ⟨_, _, _, _, e, _⟩
  · exact key (hb.block X hXW)
  · exact key (hg.2.1.block X hXW (fun e => hXP (by injection e with e)))
  · exact key (((b_new w5 _).block X (by have := hg.2.1.size; omega)).trans (hg.2.1.block X hXW (fun e => hXP (by injection e with e))))
  · exact key (app_box hC hl hg ha X (Nat.le_refl _) hXP hXW)
  · rw [h7] at e; cases e
/-- One argument more in the box. -/
theorem CL.more {w' : World} (hC : CL w0 P A c L w' k X op es v W4 k' b) (hl : P < w'.heap.size) (hP : w0.heap.size ≤ P) {p0 p1 p2 : Int} {p3 p4 : ByteArray} {p5 : Option Addr} {pm pc k2 : Nat} {b2 : Bool} {w5 : World} {g cap : Nat} (hg : Got w0 P A c L W4 k1 oy p0 p1 p2 p3 p4 p5 pm pc k2 b2 w5) (ha : App X es v p0 p1 p2 p3 p4 p5 pm pc w5 g cap w6) (hkk : b2 = false → k ≤ k1) (hb : b2 = false → b = false) (x : Ex) (hx : b2 = false → IsP (fun b => W4.heap.size ≤ b) w5 x ⟨p0, p1, p2, p3, p4⟩ p5 pm) :
    CL w0 P A c L w' k X op (es ++ [⟨x, ⟨p0, p1, p2, p3, p4⟩, p5, pm, pc⟩]) (.slice (some ⟨g, 0, none⟩) (es.length + 1) cap) (w6.setCell ⟨X, 5, none⟩ (.slice (some ⟨g, 0, none⟩) (es.length + 1) cap)) k2 b2 := by
  have hXW := (Array.getElem?_eq_some_iff.1 hC.box).1
  have hlt := hC.lt
  have hXP : X ≠ P := by omega
  obtain ⟨hS, hgr, hres⟩ := hg
  have hg' : Got w0 P A c L W4 k1 oy p0 p1 p2 p3 p4 p5 pm pc k2 b2 w5 := ⟨hS, hgr, hres⟩
  have hs5 := hgr.size
  have hb6 := fun j h1 h2 h3 => app_box hC hl hg' ha j h1 h2 h3
  obtain ⟨hown, hgA, hloc, hgl⟩ := ha
  have hbox6 := (hb6 X (Nat.le_refl _) hXP hXW).trans hC.box
  have hvl : ∀ j, v.ownBlock = some j → X + 1 ≤ j ∧ j < W4.heap.size := fun j e => hC.own.lt j e
  have hgX : X + 1 ≤ g := by rcases hloc with e | e; · exact (hvl g e).1
                             · omega
  have hset : ∀ j, j ≠ X → (w6.setCell ⟨X, 5, none⟩ (.slice (some ⟨g, 0, none⟩) (es.length + 1) cap)).heap[j]? = w6.heap[j]? := fun j hj => Below.heap_setCell w6 ⟨X, 5, none⟩ _ j hj
  have h56 : ∀ j, j < w5.heap.size → some j ≠ v.ownBlock → w6.heap[j]? = w5.heap[j]? := fun j hj hne => (hgA.block j (by simp; omega) hne).trans ((b_new w5 _).block j hj)
  have hsz : W4.heap.size ≤ w6.heap.size := by have := hgA.size; simp at this; omega
  have hPl := hS.lt
  have hP6 : w6.heap[P]? = w5.heap[P]? := h56 P hPl (fun e => hC.far (by omega) e.symm)
  have hgrow : W4.grownBy (w6.setCell ⟨X, 5, none⟩ (.slice (some ⟨g, 0, none⟩) (es.length + 1) cap)) (some P) → True := fun _ => trivial
  refine ⟨?_, fun e => ?_, ?_, ⟨?_, ?_, hS.le⟩, ?_, ?_, hlt⟩
  · rw [elC_snoc, List.length_append, List.length_singleton]
    have hgS := grown_set w6 X 5 (.slice (some ⟨g, 0, none⟩) (es.length + 1) cap)
    exact hown.kept hgS (.inr (by show some g ≠ some X; intro e; injection e with e; omega))
  · obtain ⟨i1, i2⟩ := hC.is (hb e)
    have hkk' := hkk e
    have hk2 : k1 ≤ k2 := by
      rcases hres with ⟨e', _⟩ | ⟨_, h, _⟩
      · rw [e] at e'; cases e'
      · exact h
    refine ⟨fun el hel => ?_, by omega⟩
    rcases List.mem_append.1 hel with hel | hel
    · refine IsP.keep (fun b hb hl2 => (hset b (by have := hb.1; omega)).trans ((h56 b (by omega) hb.2).trans (hgr.block b hl2 (fun e => by injection e with e; have := hb.1; omega)))) (fun b hb hl2 => ⟨hb.1, ?_⟩) _ _ _ _ (i1 el hel)
      rcases hloc with e1 | e1
      · show some b ≠ some g; rw [← e1]; exact hb.2
      · show some b ≠ some g; intro e2; injection e2 with e2; omega
    · simp at hel; subst hel
      refine IsP.keep (fun b hb hl2 => (hset b (by have h1 : W4.heap.size ≤ b := hb; omega)).trans (h56 b hl2 (fun e => by have h1 : W4.heap.size ≤ b := hb; have := (hvl b e.symm).2; omega))) (fun b hb hl2 => ⟨?_, ?_⟩) _ _ _ _ (hx e)
      · have h1 : W4.heap.size ≤ b := hb; omega
      · have h1 : W4.heap.size ≤ b := hb
        rcases hloc with e1 | e1
        · show some b ≠ some g; intro e2; injection e2 with e2; have := (hvl g e1).2; omega
        · show some b ≠ some g; intro e2; injection e2 with e2; omega
  · exact heap_setCell_same w6 X 5 _ _ _ hbox6
  · exact (hset P (by omega)).trans (hP6.trans hS.prs)
  · have h1 := hS.below.trans ((b_new w5 (.cells #[.int .i64 p0, .int .i64 p1, .int .i64 p2, .string p3, .string p4, .slice p5 pm pc] 26)).mono hS.below.size)
    have h2 := h1.grown hgA h1.size (fun j e => by have := (hvl j e).1; have := hC.st.below.size; have := hC.st.lt; omega)
    exact h2.setCell (p := ⟨X, 5, none⟩) (by show w0.heap.size ≤ X; omega) _
  · exact (hset _ (by omega)).trans ((hb6 _ (by omega) (by omega) (by omega)).trans hC.res)
  · refine ⟨?_, ?_, ?_, ?_, fun j hj hne => ?_⟩
    · exact (grown_set w6 X 5 (.slice (some ⟨g, 0, none⟩) (es.length + 1) cap)).os.trans (hgA.os.trans (hgr.os.trans hC.grown.os))
    · exact (grown_set w6 X 5 (.slice (some ⟨g, 0, none⟩) (es.length + 1) cap)).tape.trans (hgA.tape.trans (hgr.tape.trans hC.grown.tape))
    · exact (grown_set w6 X 5 (.slice (some ⟨g, 0, none⟩) (es.length + 1) cap)).output.trans (hgA.output.trans (hgr.output.trans hC.grown.output))
    · rw [sz_set]; have := hC.grown.size; omega
    · exact (hset j (by omega)).trans ((hb6 j (by omega) (fun e => hne (by rw [e])) (by have := hC.grown.size; omega)).trans (hC.grown.block j hj hne))
end
end
end Go.Proofs.YtjjchbafobcofaaGreatDoor.Cl
namespace Go.Proofs.YtjjchbafobcofaaGreatDoor.Cl
open Go.RowKit
open LexM ExM Kit ExL ExP PsM PsT NmC Ps PsR ClM RegI
set_option linter.unusedVariables false

theorem args17 (w : World) : Calls Tryz.prog 45 #[.int .i64 17] w fun e w' => e = .returned (.int .i64 3) ∧ w = w' := by
  go_enter Tryz.func45, Tryz.ntmps45
  go_wp2
  go_ret
  exact ⟨rfl, rfl⟩
theorem args18 (w : World) : Calls Tryz.prog 45 #[.int .i64 18] w fun e w' => e = .returned (.int .i64 1) ∧ w = w' := by
  go_enter Tryz.func45, Tryz.ntmps45
  go_wp2
  go_ret
  exact ⟨rfl, rfl⟩
section
variable {w0 : World} {P : Nat} {A : Option Addr} {c : Nat} {L : List Tk} {w : World} {k : Nat}
theorem call_fin {X : Nat} {op : Nat} {es : List El} {g cap : Nat} {w5 : World} {k5 : Nat} {b5 : Bool} {o1 : Out} (hC : CL w0 P A c L w k X (op : Int) es (.slice (some ⟨g, 0, none⟩) es.length cap) w5 k5 b5) (hw0 : w0.heap.size ≤ w.heap.size) (lP : P < w.heap.size) (h1 : 0 < es.length) (hm : es.length ≤ 1000)
    (ho : (b5 = true ∧ o1 = .bad (L.drop k5)) ∨ (b5 = false ∧ o1 = .ok (es.map El.x) (L.drop k5))) :
    EndsC w0 P A c L w k (wrap op o1) (.returned (.agg #[.int .i64 (op : Int), .int .i64 0, .int .i64 0, .string ⟨#[]⟩, .string ⟨#[]⟩, .slice (some ⟨g, 0, none⟩) es.length cap])) (S6 w5 w.heap.size (.int .i64 (op : Int)) (.int .i64 0) (.int .i64 0) (.string ⟨#[]⟩) (.string ⟨#[]⟩) (.slice (some ⟨g, 0, none⟩) es.length cap)) := by
  obtain ⟨r1, r2⟩ := fin6 hC.st hC.grown hw0 lP (.int .i64 (op : Int)) (.int .i64 0) (.int .i64 0) (.string ⟨#[]⟩) (.string ⟨#[]⟩) (.slice (some ⟨g, 0, none⟩) es.length cap)
  have hlt := hC.lt
  rcases ho with ⟨rfl, rfl⟩ | ⟨rfl, rfl⟩
  · exact ⟨_, k5, rfl, ⟨_, _, _, _, _, _, _, _, rfl⟩, rfl, r1, r2⟩
  · obtain ⟨hi, hk⟩ := hC.is rfl
    have hg := (hC.own.lt g rfl).1
    have hr := isP_row (P := fun b => X < b) (d := ⟨(op : Int), 0, 0, ⟨#[]⟩, ⟨#[]⟩⟩) (es := es) (g := g) (w := w5) (fun j hj => hC.own.cellAt j hj) (by show X < g; omega) (by unfold maxLen; omega) (Nat.zero_le _) (Nat.zero_le _) (fun e he => (hi e he).imp fun b hb _ => hb.1)
    have hh := fun b (hb : b ≠ w.heap.size) => s6_heap w5 w.heap.size b hb (.int .i64 (op : Int)) (.int .i64 0) (.int .i64 0) (.string ⟨#[]⟩) (.string ⟨#[]⟩) (.slice (some ⟨g, 0, none⟩) es.length cap)
    exact ⟨⟨(op : Int), 0, 0, ⟨#[]⟩, ⟨#[]⟩⟩, some ⟨g, 0, none⟩, es.length, cap, k5, rfl, IsP.keep (fun b hb _ => hh b (by have h1 : X < b := hb; omega)) (fun b hb _ => by have h1 : X < b := hb; show w.heap.size ≤ b; omega) _ _ _ _ hr, rfl, hk, r1, r2⟩
theorem next_no {r : List Tk} (hq : ∀ t ∈ r, t.kind = 3 → ∃ u, t.s = 34 :: u) {s : List UInt8} (hs : s ≠ []) (h34 : s.head? ≠ some 34) (h : ¬ nextS r = s) : isNext s r = false := by
  cases hb : isNext s r with
  | true => exact absurd ((next_isNext hq s hs h34).2 hb) h
  | false => rfl

set_option maxRecDepth 100000 in
set_option maxHeartbeats 32000000 in
theorem ahead_if (hE : CEnv w0 P A L) (hQ : ∀ t ∈ L, t.kind = 3 → ∃ u, t.s = 34 :: u) (hS : CSt w0 P A c L w k false) (hn : (⟨(nextS (L.drop k)).toArray⟩ : ByteArray) = ⟨#[105, 102]⟩) (o1 : Out) (ho : (isNext [40] (L.drop (k + 1)) = true → Ev (.list 3 []) (L.drop (k + 2)) o1) ∧ (isNext [40] (L.drop (k + 1)) = false → o1 = .bad (L.drop (k + 1))))
    (hF : ∀ k' o' W, k < k' → k' ≤ L.length → Ev (.form 0) (L.drop k') o' → CSt w0 P A c L W k' false → Calls Tryz.prog 11 #[.pointer (some ⟨P, 0, none⟩), .int .i64 1] W (EndsC w0 P A c L W k' o')) :
    Calls Tryz.prog 25 #[.pointer (some ⟨P, 0, none⟩)] w (EndsC w0 P A c L w k (wrap 17 o1)) := by
  have hk : k < L.length := next_lt (fun h0 => by rw [h0] at hn; cases hn)
  obtain ⟨W, hW⟩ : ∃ W, w.alloc (.cells #[.int .i64 0, .int .i64 0, .int .i64 0, .string ⟨#[]⟩, .string ⟨#[]⟩, .slice none 0 0] 26) = W := ⟨_, rfl⟩
  have hb : Below w.heap.size w W := by rw [← hW]; exact b_new _ _
  have hsz : W.heap.size = w.heap.size + 1 := by rw [← hW]; simp
  have k1 : W.heap[w.heap.size]? = some (.cells #[.int .i64 0, .int .i64 0, .int .i64 0, .string ⟨#[]⟩, .string ⟨#[]⟩, .slice none 0 0] 26 (0, 0)) := by rw [← hW]; exact World.alloc_heap_new w _
  have hSW := hS.keep hb
  have hN := next_c hE hSW
  rw [hn] at hN
  have hw : IntKind.i64.wrap ((k : Int) + 1) = (k : Int) + 1 := IntWalk.i64_in _ (by have := hS.le; have := hE.len; omega)
  obtain ⟨h0, h1, h2⟩ := hSW.at
  have hf := hSW.frozen 1
  obtain ⟨c1, f1⟩ := cells_of k1
  have l1 := (Array.getElem?_eq_some_iff.1 k1).1
  have HW := Lib.hid hW
  have HS := Lib.hid hSW
  have HB := Lib.hid hb
  have HB0 := Lib.hid hS.below.size
  have n1 : P ≠ w.heap.size := by have := hS.lt; omega
  have n2 : w.heap.size ≠ P := fun e => n1 e.symm
  have HN := Lib.hid hN
  have HF := Lib.hid hF
  have HO := Lib.hid ho
  have HQ := Lib.hid hQ
  have HE := Lib.hid hE
  have K1 := Lib.hid k1
  have lP := hS.lt
  obtain ⟨i0, hi, hz0, hz1, hz2⟩ := info_parts PsL.infoEx
  clear hW hSW hb hS k1 hN hF ho hQ hE hn
  go_enter Tryz.func25, Tryz.ntmps25
  go_upto_region 1 with fail
  rw [HW.out]
  go_wp2_with fail
  refine HN.out.mono ?_
  rintro e w1 ⟨rfl, m, rfl⟩
  have hS1 := (HS.out.drew m).took HE.out.hP hk
  have gX := grown_trans (grown_below (b_drewN HB.out m) (some P)) (grown_set _ P 1 (.int .i64 ((k : Int) + 1)))
  have kX := (Below.heap_setCell (W.drewN m) ⟨P, 1, none⟩ (.int .i64 ((k : Int) + 1)) w.heap.size n2).trans K1.out
  have sX : ((W.drewN m).setCell ⟨P, 1, none⟩ (.int .i64 ((k : Int) + 1))).heap.size = w.heap.size + 1 := by rw [sz_set]; exact hsz
  obtain ⟨V, hV⟩ : ∃ V, (W.drewN m).setCell ⟨P, 1, none⟩ (.int .i64 ((k : Int) + 1)) = V := ⟨_, rfl⟩
  rw [hV] at hS1 gX kX sX
  have HV := Lib.hid hV
  have HS1 := Lib.hid hS1
  have GX := Lib.hid gX
  have KX := Lib.hid kX
  clear hV gX kX hS1 HS HN HW HB K1
  go_upto_region 20 with fail
  rw [HV.out]
  clear h0 h1 h2 hf c1 f1 l1 hw
  go_upto_region 23 with fail
  obtain ⟨X, hX⟩ : ∃ X, w.heap.size + 1 = X := ⟨_, rfl⟩
  obtain ⟨W5, hW5⟩ : ∃ W5, V.alloc (.cells #[.int .i64 17, .int .i64 0, .int .i64 0, .string ⟨#[]⟩, .string ⟨#[]⟩, .slice none 0 0] 26) = W5 := ⟨_, rfl⟩
  have hb5 : Below V.heap.size V W5 := by rw [← hW5]; exact b_new _ _
  have hC5 : CL w0 P A c L w k X 17 [] (.slice none 0 0) W5 (k + 1) false := by
    refine ⟨World.ownsRow_nil _ _ _ _, fun _ => ⟨fun e he => by simp at he, Nat.le_succ _⟩, ?_, HS1.out.keep hb5, boxz_keep KX.out hb5, grown_trans GX.out (grown_below hb5 _), by omega⟩
    rw [← hW5, ← hX, ← sX]; exact World.alloc_heap_new V _
  have hp := pass_c HE.out hC5.st ⟨#[40]⟩ (by simp)
  have HPs := Lib.hid hp
  have HW5 := Lib.hid hW5
  have HX := Lib.hid hX
  have HC5 := Lib.hid hC5
  clear hW5 hX hp hC5 hb5 HS1 GX KX sX HV
  rw [HW5.out, HX.out]
  go_wp2_with fail
  refine HPs.out.mono ?_
  rintro e w6 ⟨rfl, hg6, hp6⟩
  have hq1 : ∀ j, ∀ t ∈ L.drop j, t.kind = 3 → ∃ u, t.s = 34 :: u := fun j t ht => HQ.out t (List.mem_of_mem_drop ht)
  have HQ1 := Lib.hid hq1
  obtain ⟨k6, b6, hC6, hbad6, hok6⟩ : ∃ k6 b6, CL w0 P A c L w k X 17 [] (.slice none 0 0) w6 k6 b6 ∧ (b6 = true → o1 = .bad (L.drop k6)) ∧ (b6 = false → Cont 3 [] (L.drop k6) o1 ∧ k + 2 ≤ k6) := by
    by_cases hnn : nextS (L.drop (k + 1)) = [40]
    · rw [if_pos (by first | exact ⟨rfl, hnn⟩ | exact ⟨trivial, hnn⟩)] at hp6
      exact ⟨k + 2, false, HC5.out.keep lP hp6.2 hg6 (fun _ => ⟨rfl, by omega⟩), fun e => Bool.noConfusion e, fun _ => ⟨HO.out.1 ((next_isNext (hq1 _) _ (by simp) (by simp)).1 hnn), Nat.le_refl _⟩⟩
    · rw [if_neg (fun h => hnn h.2)] at hp6
      exact ⟨k + 1, true, HC5.out.keep lP hp6 hg6 (fun e => Bool.noConfusion e), fun _ => HO.out.2 (next_no (hq1 _) (by simp) (by simp) hnn), fun e => Bool.noConfusion e⟩
  have HC6 := Lib.hid (And.intro hC6 (And.intro hbad6 hok6))
  clear hC6 hbad6 hok6 hp6 hg6 HC5 HO hq1 HPs HW5
  go_wp2_with fail
  go_loopw [7] (fun s7 wr => ∃ (es : List El) (v : Value) (k' : Nat) (b : Bool), s7 = .int .i64 (es.length : Int) ∧ es.length ≤ 3 ∧ CL w0 P A c L w k X 17 es v wr k' b ∧ (b = true → o1 = .bad (L.drop k')) ∧ (b = false → Cont 3 (es.map El.x) (L.drop k') o1 ∧ k + 2 ≤ k')) (fun s7 _ => 3 - (intOf s7).toNat)
  case atStart => exact ⟨[], _, k6, b6, rfl, Nat.zero_le _, HC6.out.1, HC6.out.2.1, HC6.out.2.2⟩
  case round =>
    clear HC6
    obtain ⟨es, v, k', b, rfl, hle, hC, hbad, hok⟩ := hrel
    obtain ⟨x0, x1⟩ := cells_of hC.box
    have hla : (es.map El.x).length = es.length := List.length_map _
    by_cases hlt : es.length < 3
    · have t1 : (es.length : Int) < 3 := by omega
      have hw1 : IntKind.i64.wrap ((es.length : Int) + 1) = (es.length : Int) + 1 := IntWalk.i64_in _ (by omega)
      have HC := Lib.hid hC
      have HB := Lib.hid (And.intro hbad hok)
      clear hC hbad hok
      go_wp2_with fail
      refine (args17 _).mono ?_; rintro e wx ⟨rfl, rfl⟩
      go_upto_if 72 with (fail)
      go_cut [] (fun wx => ∃ (k1 : Nat) (b1 : Bool), CL w0 P A c L w k X 17 es v wx k1 b1 ∧ (b1 = true → o1 = .bad (L.drop k1)) ∧ (b1 = false → Ev (.list 3 (es.map El.x)) (L.drop k1) o1 ∧ k + 2 ≤ k1))
      case first =>
        by_cases h00 : es.length = 0
        · have t2 : ¬ (0 : Int) < (es.length : Int) := by omega
          have H00 := Lib.hid h00
          clear h00
          go_wp2_with fail
          go_meet
          refine ⟨k', b, HC.out, HB.out.1, fun e => ?_⟩
          obtain ⟨hc, hk2⟩ := HB.out.2 e
          unfold Cont at hc
          rw [hla, if_pos H00.out] at hc
          have : es = [] := List.length_eq_zero_iff.1 H00.out
          subst this
          exact ⟨hc, hk2⟩
        · have t2 : (0 : Int) < (es.length : Int) := by omega
          have hp := pass_c HE.out HC.out.st ⟨#[44]⟩ (by simp)
          have HPs := Lib.hid hp
          clear hp
          go_wp2_with fail
          refine HPs.out.mono ?_
          rintro e wx ⟨rfl, hgx, hpx⟩
          have hres : ∃ (k1 : Nat) (b1 : Bool), CL w0 P A c L w k X 17 es v wx k1 b1 ∧ (b1 = true → o1 = .bad (L.drop k1)) ∧ (b1 = false → Ev (.list 3 (es.map El.x)) (L.drop k1) o1 ∧ k + 2 ≤ k1) := by
            by_cases hnn : b = false ∧ nextS (L.drop k') = [44]
            · rw [if_pos hnn] at hpx
              obtain ⟨rfl, hnn⟩ := hnn
              obtain ⟨hc, hk2⟩ := HB.out.2 rfl
              unfold Cont at hc
              rw [hla, if_neg h00, if_pos hlt] at hc
              have := hc.1 ((next_isNext (HQ1.out _) _ (by simp) (by simp)).1 hnn)
              rw [List.tail_drop] at this
              exact ⟨k' + 1, false, HC.out.keep lP hpx.2 hgx (fun _ => ⟨rfl, by omega⟩), fun e => Bool.noConfusion e, fun _ => ⟨this, by omega⟩⟩
            · rw [if_neg hnn] at hpx
              refine ⟨k', true, HC.out.keep lP hpx hgx (fun e => Bool.noConfusion e), fun _ => ?_, fun e => Bool.noConfusion e⟩
              cases b with
              | true => exact HB.out.1 rfl
              | false =>
                obtain ⟨hc, hk2⟩ := HB.out.2 rfl
                unfold Cont at hc
                rw [hla, if_neg h00, if_pos hlt] at hc
                exact hc.2 (next_no (HQ1.out _) (by simp) (by simp) (fun e => hnn ⟨rfl, e⟩))
          have HR := Lib.hid hres
          clear hres hpx hgx
          go_wp2_with fail
          go_meet
          exact HR.out
      case rest =>
        obtain ⟨W4, rfl⟩ : ∃ V, V = wc := ⟨_, rfl⟩
        obtain ⟨k1, b1, hC4, hbad4, hok4⟩ := hcut
        obtain ⟨oy, hcc, hfin⟩ : ∃ oy, (∀ W, Below W4.heap.size W4 W → Calls Tryz.prog 11 #[.pointer (some ⟨P, 0, none⟩), .int .i64 1] W (EndsC w0 P A c L W k1 oy)) ∧
            (∀ k2, oy = .bad (L.drop k2) → o1 = .bad (L.drop k2)) ∧ (∀ k2 x, oy = .ok [x] (L.drop k2) → b1 = false ∧ Cont 3 (es.map El.x ++ [x]) (L.drop k2) o1) ∧ (b1 = false → k + 2 ≤ k1) := by
          cases b1 with
          | true =>
            refine ⟨.bad (L.drop k1), fun W hW => formula_lost HE.out (hC4.st.keep hW) 1, fun k2 e => ?_, fun k2 x e => Out.noConfusion e, fun e => Bool.noConfusion e⟩
            rw [← e]; exact hbad4 rfl
          | false =>
            obtain ⟨hev, hk2⟩ := hok4 rfl
            obtain ⟨oy, hoy, _⟩ := form_ex 0 (by omega) (L.drop k1)
            exact ⟨oy, fun W hW => HF.out k1 oy W (by omega) hC4.st.le hoy (hC4.st.keep hW), fun k2 e => cont_bad hev (e ▸ hoy), fun k2 x e => ⟨rfl, cont_step hev (e ▸ hoy) (by rw [hla]; exact hlt)⟩, fun _ => hk2⟩
        have HC4 := Lib.hid hC4
        have HCC := Lib.hid hcc
        have HFin := Lib.hid hfin
        clear hC4 hbad4 hok4 hcc hfin HC HB x0 x1
        go_upto_region 29 with fail
        have hen : ∀ (args : Array Value) (w : World), (callFunc 11 args).run Tryz.prog w = .ok (.enter 11 args) w := fun _ _ => by kernel_rfl
        refine region_fill [(0, 75), (1, 76), (2, 77), (3, 78), (4, 79), (5, 80), (6, 81)] (JC w0 P A c L W4 k1 oy X es v) (fun f => by simp only [fill, Act.put, List.setIfInBounds_toArray, List.set_cons_zero, List.set_cons_succ]; rfl) (by kernel_rfl) (by kernel_rfl) (by kernel_rfl) (fun f => jc_start f) ?_ ?_
        · intro F hFr
          refine ⟨?_, ?_, ?_, ?_, ?_, ?_, ?_, ?_, trivial⟩
          · as_aux_lemma =>
            intro D f wx hJ hD hdep K hK
            have hl : (Instr.fieldAt 26 (.pointer (some ⟨X, 0, none⟩)) 3).run Tryz.prog wx = .ok (.pointer (some ⟨X, 5, none⟩)) wx := by simp [go_sem]
            exact stepF_val rfl (op_field rfl (p := .pointer (some ⟨X, 0, none⟩)) (by rw [hFr]; kernel_rfl) hl) (by rw [hFr, hFr]; kernel_rfl) (hK (updf f 0 (.pointer (some ⟨X, 5, none⟩))) _ (jc_pure hJ 0 _ (.inl ⟨rfl, rfl⟩)))
          · as_aux_lemma =>
            intro D f wx hJ hD hdep K hK
            have e0 := hJ.1 (done hdep 0 (by kernel_rfl))
            obtain ⟨q1, q2⟩ := jc_cell HC4.out lP hJ (jc_d7 hJ hD)
            have hl : (Instr.loadAt 24 (.pointer (some ⟨X, 5, none⟩))).run Tryz.prog wx = .ok v wx := by simp [go_sem, q1]
            exact stepF_val rfl (op_load rfl (p := .pointer (some ⟨X, 5, none⟩)) ((show _ = f 0 from by rw [hFr]; kernel_rfl).trans e0) hl) (by rw [hFr, hFr]; kernel_rfl) (hK (updf f 1 v) _ (jc_pure hJ 1 _ (.inr (.inl ⟨rfl, rfl⟩))))
          · as_aux_lemma =>
            intro D f wx hJ hD hdep K hK
            exact stepF_val rfl (op_move rfl (v := .pointer (some ⟨P, 0, none⟩)) (by rw [hFr]; kernel_rfl)) (by rw [hFr, hFr]; kernel_rfl) (hK (updf f 2 (.pointer (some ⟨P, 0, none⟩))) _ (jc_pure hJ 2 _ (.inr (.inr (.inl ⟨rfl, rfl⟩)))))
          · as_aux_lemma =>
            intro D f wx hJ hD hdep K hK
            have e2 := hJ.2.2.1 (done hdep 2 (by kernel_rfl))
            have hB := (jc_call hJ hD).2.2.2
            refine stepF_callR rfl (op_enter rfl rfl (xs := #[.pointer (some ⟨P, 0, none⟩), .int .i64 1]) (by rw [← e2, hFr]; kernel_rfl) hen) (HCC.out wx hB) ?_
            intro e w5 he
            obtain ⟨p0, p1, p2, p3, p4, p5, pm, pc, k2, b2, rfl, hS5, hg5, hres⟩ := parts_of he
            have hk := hK (updf f 3 (.agg #[.int .i64 p0, .int .i64 p1, .int .i64 p2, .string p3, .string p4, .slice p5 pm pc])) w5 (jc_called hJ hD (got_of hB hS5 hg5 hres))
            refine ⟨_, rfl, ?_⟩
            rw [hFr] at hk ⊢
            exact hk
          · as_aux_lemma =>
            intro D f wx hJ hD hdep K hK
            obtain ⟨_, _, p0, p1, p2, p3, p4, p5, pm, pc, k2, b2, e3, hgot⟩ := jc_got hJ (done hdep 3 (by kernel_rfl)) hD
            have hl := slice_one wx p0 p1 p2 p3 p4 p5 pm pc
            exact stepF_val rfl (op_buildSlice rfl (qs := #[(0, .agg #[.int .i64 p0, .int .i64 p1, .int .i64 p2, .string p3, .string p4, .slice p5 pm pc])]) (by rw [← e3, hFr]; kernel_rfl) hl) (by rw [hFr, hFr]; kernel_rfl) (hK (updf f 4 (.slice (some ⟨wx.heap.size, 0, none⟩) 1 1)) _ (jc_built hJ (done hdep 3 (by kernel_rfl)) hD hgot))
          · as_aux_lemma =>
            intro D f wx hJ hD hdep K hK
            obtain ⟨_, _, p0, p1, p2, p3, p4, p5, pm, pc, k2, b2, w5, hgot, e4, rfl⟩ := jc_slice hJ (done hdep 4 (by kernel_rfl)) hD
            have e1 := hJ.2.1 (done hdep 1 (by kernel_rfl))
            have own5 := HC4.out.own.kept hgot.2.1 (.inr (HC4.out.far (by have := HC4.out.lt; omega)))
            have hs5 := hgot.2.1.size
            have hXW := (Array.getElem?_eq_some_iff.1 HC4.out.box).1
            refine step_append_lies _ (by rfl) (.tmp 76) (.tmp 79) 24 (by rfl) (X + 1) 26 i0 _ 6 80 Tryz.underlying24 hi hz0 hz1 hz2 rfl (by omega) v es.length (elC es) ((show _ = f 1 from by rw [hFr]; kernel_rfl).trans e1) (own5.alloc _) ⟨w5.heap.size, 0, none⟩ 1 1 [.int .i64 p0, .int .i64 p1, .int .i64 p2, .string p3, .string p4, .slice p5 pm pc] ((show _ = f 4 from by rw [hFr]; kernel_rfl).trans e4) (by rfl) (World.news_of_block (cs := #[.int .i64 p0, .int .i64 p1, .int .i64 p2, .string p3, .string p4, .slice p5 pm pc]) (t := 26) (fr := (0, 0)) (World.alloc_heap_new w5 _)) (by simp [Value.oneCell']) (by omega) (by unfold maxLen; omega) (by omega) (by simp; omega) (w5.heap.size + 1) (by simp) ?_
            intro g cap w6 hown6 hgrow6 hat6 hlt6
            have hk := hK (updf f 5 (.slice (some ⟨g, 0, none⟩) (es.length + 1) cap)) w6 (jc_appended hJ (done hdep 1 (by kernel_rfl)) (done hdep 4 (by kernel_rfl)) hD hgot ⟨hown6, hgrow6, hat6, hlt6⟩)
            rw [hFr] at hk ⊢
            exact hk
          · as_aux_lemma =>
            intro D f wx hJ hD hdep K hK
            have hl : (Instr.fieldAt 26 (.pointer (some ⟨X, 0, none⟩)) 3).run Tryz.prog wx = .ok (.pointer (some ⟨X, 5, none⟩)) wx := by simp [go_sem]
            exact stepF_val rfl (op_field rfl (p := .pointer (some ⟨X, 0, none⟩)) (by rw [hFr]; kernel_rfl) hl) (by rw [hFr, hFr]; kernel_rfl) (hK (updf f 6 (.pointer (some ⟨X, 5, none⟩))) _ (jc_pure hJ 6 _ (.inr (.inr (.inr ⟨rfl, rfl⟩)))))
          · as_aux_lemma =>
            intro D f wx hJ hD hdep K hK
            obtain ⟨_, _, _, p0, p1, p2, p3, p4, p5, pm, pc, k2, b2, w5, g, cap, hgot, happ, e5⟩ := jc_app hJ (done hdep 5 (by kernel_rfl)) hD
            have e6 := hJ.2.2.2.1 (done hdep 6 (by kernel_rfl))
            obtain ⟨q1, q2⟩ := jc_cell HC4.out lP hJ hD
            have hl : (Instr.storeAt 24 (.pointer (some ⟨X, 5, none⟩)) (.slice (some ⟨g, 0, none⟩) (es.length + 1) cap)).run Tryz.prog wx = .ok () (wx.setCell ⟨X, 5, none⟩ (.slice (some ⟨g, 0, none⟩) (es.length + 1) cap)) := by simp [go_sem, q1, q2]
            exact stepF_skip rfl rfl (op_store rfl ((show _ = f 6 from by rw [hFr]; kernel_rfl).trans e6) ((show _ = f 5 from by rw [hFr]; kernel_rfl).trans e5) hl) (hK f _ (jc_stored hJ (done hdep 5 (by kernel_rfl)) hD hgot happ))
        · intro D f wx hJ hall
          have hres : ∃ (es' : List El) (v' : Value) (k2 : Nat) (b2 : Bool), es'.length = es.length + 1 ∧ CL w0 P A c L w k X 17 es' v' wx k2 b2 ∧ (b2 = true → o1 = .bad (L.drop k2)) ∧ (b2 = false → Cont 3 (es'.map El.x) (L.drop k2) o1 ∧ k + 2 ≤ k2) := by
            obtain ⟨p0, p1, p2, p3, p4, p5, pm, pc, k2, b2, w5, g, cap, w6', hg, ha, rfl⟩ := jc_end hJ (hall 7 (by decide))
            obtain ⟨f1, f2, f3⟩ := HFin.out
            rcases hg.2.2 with ⟨rfl, e⟩ | ⟨rfl, h1, x, e, hx⟩
            · exact ⟨_, _, k2, true, by simp, HC4.out.more lP HE.out.hP hg ha (fun e => Bool.noConfusion e) (fun e => Bool.noConfusion e) (.mk ⟨0, 0, 0, ⟨#[]⟩, ⟨#[]⟩⟩ []) (fun e => Bool.noConfusion e), fun _ => f1 k2 e, fun e => Bool.noConfusion e⟩
            · obtain ⟨e1, e2⟩ := f2 k2 x e
              exact ⟨_, _, k2, false, by simp, HC4.out.more lP HE.out.hP hg ha (fun _ => by have := f3 e1; omega) (fun _ => e1) x (fun _ => hx), fun e => Bool.noConfusion e, fun _ => ⟨by rw [List.map_append]; exact e2, by have := f3 e1; omega⟩⟩
          obtain ⟨es', v', k2, b2, hl9, hC9, hbad9, hok9⟩ := hres
          have HC9 := Lib.hid (And.intro hl9 (And.intro hC9 (And.intro hbad9 hok9)))
          clear hl9 hC9 hbad9 hok9 HC4 HCC HFin hJ hall
          go_wp2_with fail
          go_roundw
          case rel => exact ⟨es', v', k2, b2, by rw [HC9.out.1]; go_num, by rw [HC9.out.1]; omega, HC9.out.2⟩
          case measure => simp [intOf]; omega
    · have hln : es.length = 3 := by omega
      have t1 : ¬ (es.length : Int) < 3 := by omega
      have h00' : ¬ es.length = 0 := by omega
      have h01' : 0 < es.length := by omega
      have h02' : es.length ≤ 1000 := by omega
      have h03' := hlt
      have HLN := Lib.hid (And.intro h00' (And.intro h03' (And.intro h01' h02')))
      have hp := pass_c HE.out hC.st ⟨#[41]⟩ (by simp)
      obtain ⟨g, cap, rfl, hgl, _, hlc, hcm, hcl⟩ := PsL.own_form hC.own h01'
      have HPs := Lib.hid hp
      have HC := Lib.hid hC
      have HB := Lib.hid (And.intro hbad hok)
      clear hp hC hbad hok hcl hln h00' h01' h02' h03' hlt hle hlc hcm
      go_wp2_with fail
      refine (args17 _).mono ?_; rintro e wx ⟨rfl, rfl⟩
      go_wp2_with fail
      refine HPs.out.mono ?_
      rintro e w7 ⟨rfl, hg7, hp7⟩
      obtain ⟨k7, b7, hC7, ho7⟩ : ∃ k7 b7, CL w0 P A c L w k X 17 es (.slice (some ⟨g, 0, none⟩) es.length cap) w7 k7 b7 ∧ ((b7 = true ∧ o1 = .bad (L.drop k7)) ∨ (b7 = false ∧ o1 = .ok (es.map El.x) (L.drop k7))) := by
        by_cases hnn : b = false ∧ nextS (L.drop k') = [41]
        · rw [if_pos hnn] at hp7
          obtain ⟨rfl, hnn⟩ := hnn
          obtain ⟨hc, hk2⟩ := HB.out.2 rfl
          unfold Cont at hc
          rw [hla, if_neg HLN.out.1, if_neg HLN.out.2.1] at hc
          have := hc.1 ((next_isNext (HQ1.out _) _ (by simp) (by simp)).1 hnn)
          rw [List.tail_drop] at this
          exact ⟨k' + 1, false, HC.out.keep lP hp7.2 hg7 (fun _ => ⟨rfl, by omega⟩), .inr ⟨rfl, this⟩⟩
        · rw [if_neg hnn] at hp7
          refine ⟨k', true, HC.out.keep lP hp7 hg7 (fun e => Bool.noConfusion e), .inl ⟨rfl, ?_⟩⟩
          cases b with
          | true => exact HB.out.1 rfl
          | false =>
            obtain ⟨hc, hk2⟩ := HB.out.2 rfl
            unfold Cont at hc
            rw [hla, if_neg HLN.out.1, if_neg HLN.out.2.1] at hc
            exact hc.2 (next_no (HQ1.out _) (by simp) (by simp) (fun e => hnn ⟨rfl, e⟩))
      have hend := call_fin (op := 17) hC7 HB0.out lP HLN.out.2.2.1 HLN.out.2.2.2 ho7
      obtain ⟨y0, y1⟩ := cells_of hC7.box
      obtain ⟨z0, z1⟩ := cells_of hC7.res
      have HEnd := Lib.hid hend
      clear hend hC7 ho7 hp7 hg7 x0 x1
      go_wp2_with fail
      refine bodyPost_ret (v := .agg #[.int .i64 17, .int .i64 0, .int .i64 0, .string ⟨#[]⟩, .string ⟨#[]⟩, .slice (some ⟨g, 0, none⟩) es.length cap]) (by simp [results, Tryz.results25, go_sem, z0]) rfl HEnd.out

set_option maxRecDepth 100000 in
set_option maxHeartbeats 32000000 in
theorem ahead_len (hE : CEnv w0 P A L) (hQ : ∀ t ∈ L, t.kind = 3 → ∃ u, t.s = 34 :: u) (hS : CSt w0 P A c L w k false) (hn : (⟨(nextS (L.drop k)).toArray⟩ : ByteArray) = ⟨#[108, 101, 110]⟩) (o1 : Out) (ho : (isNext [40] (L.drop (k + 1)) = true → Ev (.list 1 []) (L.drop (k + 2)) o1) ∧ (isNext [40] (L.drop (k + 1)) = false → o1 = .bad (L.drop (k + 1))))
    (hF : ∀ k' o' W, k < k' → k' ≤ L.length → Ev (.form 0) (L.drop k') o' → CSt w0 P A c L W k' false → Calls Tryz.prog 11 #[.pointer (some ⟨P, 0, none⟩), .int .i64 1] W (EndsC w0 P A c L W k' o')) :
    Calls Tryz.prog 25 #[.pointer (some ⟨P, 0, none⟩)] w (EndsC w0 P A c L w k (wrap 18 o1)) := by
  have hk : k < L.length := next_lt (fun h0 => by rw [h0] at hn; cases hn)
  obtain ⟨W, hW⟩ : ∃ W, w.alloc (.cells #[.int .i64 0, .int .i64 0, .int .i64 0, .string ⟨#[]⟩, .string ⟨#[]⟩, .slice none 0 0] 26) = W := ⟨_, rfl⟩
  have hb : Below w.heap.size w W := by rw [← hW]; exact b_new _ _
  have hsz : W.heap.size = w.heap.size + 1 := by rw [← hW]; simp
  have k1 : W.heap[w.heap.size]? = some (.cells #[.int .i64 0, .int .i64 0, .int .i64 0, .string ⟨#[]⟩, .string ⟨#[]⟩, .slice none 0 0] 26 (0, 0)) := by rw [← hW]; exact World.alloc_heap_new w _
  have hSW := hS.keep hb
  have hN := next_c hE hSW
  rw [hn] at hN
  have hw : IntKind.i64.wrap ((k : Int) + 1) = (k : Int) + 1 := IntWalk.i64_in _ (by have := hS.le; have := hE.len; omega)
  obtain ⟨h0, h1, h2⟩ := hSW.at
  have hf := hSW.frozen 1
  obtain ⟨c1, f1⟩ := cells_of k1
  have l1 := (Array.getElem?_eq_some_iff.1 k1).1
  have HW := Lib.hid hW
  have HS := Lib.hid hSW
  have HB := Lib.hid hb
  have HB0 := Lib.hid hS.below.size
  have n1 : P ≠ w.heap.size := by have := hS.lt; omega
  have n2 : w.heap.size ≠ P := fun e => n1 e.symm
  have HN := Lib.hid hN
  have HF := Lib.hid hF
  have HO := Lib.hid ho
  have HQ := Lib.hid hQ
  have HE := Lib.hid hE
  have K1 := Lib.hid k1
  have lP := hS.lt
  obtain ⟨i0, hi, hz0, hz1, hz2⟩ := info_parts PsL.infoEx
  clear hW hSW hb hS k1 hN hF ho hQ hE hn
  go_enter Tryz.func25, Tryz.ntmps25
  go_upto_region 1 with fail
  rw [HW.out]
  go_wp2_with fail
  refine HN.out.mono ?_
  rintro e w1 ⟨rfl, m, rfl⟩
  have hS1 := (HS.out.drew m).took HE.out.hP hk
  have gX := grown_trans (grown_below (b_drewN HB.out m) (some P)) (grown_set _ P 1 (.int .i64 ((k : Int) + 1)))
  have kX := (Below.heap_setCell (W.drewN m) ⟨P, 1, none⟩ (.int .i64 ((k : Int) + 1)) w.heap.size n2).trans K1.out
  have sX : ((W.drewN m).setCell ⟨P, 1, none⟩ (.int .i64 ((k : Int) + 1))).heap.size = w.heap.size + 1 := by rw [sz_set]; exact hsz
  obtain ⟨V, hV⟩ : ∃ V, (W.drewN m).setCell ⟨P, 1, none⟩ (.int .i64 ((k : Int) + 1)) = V := ⟨_, rfl⟩
  rw [hV] at hS1 gX kX sX
  have HV := Lib.hid hV
  have HS1 := Lib.hid hS1
  have GX := Lib.hid gX
  have KX := Lib.hid kX
  clear hV gX kX hS1 HS HN HW HB K1
  go_upto_region 20 with fail
  rw [HV.out]
  clear h0 h1 h2 hf c1 f1 l1 hw
  go_upto_region 23 with fail
  obtain ⟨X, hX⟩ : ∃ X, w.heap.size + 1 = X := ⟨_, rfl⟩
  obtain ⟨W5, hW5⟩ : ∃ W5, V.alloc (.cells #[.int .i64 18, .int .i64 0, .int .i64 0, .string ⟨#[]⟩, .string ⟨#[]⟩, .slice none 0 0] 26) = W5 := ⟨_, rfl⟩
  have hb5 : Below V.heap.size V W5 := by rw [← hW5]; exact b_new _ _
  have hC5 : CL w0 P A c L w k X 18 [] (.slice none 0 0) W5 (k + 1) false := by
    refine ⟨World.ownsRow_nil _ _ _ _, fun _ => ⟨fun e he => by simp at he, Nat.le_succ _⟩, ?_, HS1.out.keep hb5, boxz_keep KX.out hb5, grown_trans GX.out (grown_below hb5 _), by omega⟩
    rw [← hW5, ← hX, ← sX]; exact World.alloc_heap_new V _
  have hp := pass_c HE.out hC5.st ⟨#[40]⟩ (by simp)
  have HPs := Lib.hid hp
  have HW5 := Lib.hid hW5
  have HX := Lib.hid hX
  have HC5 := Lib.hid hC5
  clear hW5 hX hp hC5 hb5 HS1 GX KX sX HV
  rw [HW5.out, HX.out]
  go_wp2_with fail
  refine HPs.out.mono ?_
  rintro e w6 ⟨rfl, hg6, hp6⟩
  have hq1 : ∀ j, ∀ t ∈ L.drop j, t.kind = 3 → ∃ u, t.s = 34 :: u := fun j t ht => HQ.out t (List.mem_of_mem_drop ht)
  have HQ1 := Lib.hid hq1
  obtain ⟨k6, b6, hC6, hbad6, hok6⟩ : ∃ k6 b6, CL w0 P A c L w k X 18 [] (.slice none 0 0) w6 k6 b6 ∧ (b6 = true → o1 = .bad (L.drop k6)) ∧ (b6 = false → Cont 1 [] (L.drop k6) o1 ∧ k + 2 ≤ k6) := by
    by_cases hnn : nextS (L.drop (k + 1)) = [40]
    · rw [if_pos (by first | exact ⟨rfl, hnn⟩ | exact ⟨trivial, hnn⟩)] at hp6
      exact ⟨k + 2, false, HC5.out.keep lP hp6.2 hg6 (fun _ => ⟨rfl, by omega⟩), fun e => Bool.noConfusion e, fun _ => ⟨HO.out.1 ((next_isNext (hq1 _) _ (by simp) (by simp)).1 hnn), Nat.le_refl _⟩⟩
    · rw [if_neg (fun h => hnn h.2)] at hp6
      exact ⟨k + 1, true, HC5.out.keep lP hp6 hg6 (fun e => Bool.noConfusion e), fun _ => HO.out.2 (next_no (hq1 _) (by simp) (by simp) hnn), fun e => Bool.noConfusion e⟩
  have HC6 := Lib.hid (And.intro hC6 (And.intro hbad6 hok6))
  clear hC6 hbad6 hok6 hp6 hg6 HC5 HO hq1 HPs HW5
  go_wp2_with fail
  go_loopw [7] (fun s7 wr => ∃ (es : List El) (v : Value) (k' : Nat) (b : Bool), s7 = .int .i64 (es.length : Int) ∧ es.length ≤ 1 ∧ CL w0 P A c L w k X 18 es v wr k' b ∧ (b = true → o1 = .bad (L.drop k')) ∧ (b = false → Cont 1 (es.map El.x) (L.drop k') o1 ∧ k + 2 ≤ k')) (fun s7 _ => 1 - (intOf s7).toNat)
  case atStart => exact ⟨[], _, k6, b6, rfl, Nat.zero_le _, HC6.out.1, HC6.out.2.1, HC6.out.2.2⟩
  case round =>
    clear HC6
    obtain ⟨es, v, k', b, rfl, hle, hC, hbad, hok⟩ := hrel
    obtain ⟨x0, x1⟩ := cells_of hC.box
    have hla : (es.map El.x).length = es.length := List.length_map _
    by_cases hlt : es.length < 1
    · have t1 : (es.length : Int) < 1 := by omega
      have hw1 : IntKind.i64.wrap ((es.length : Int) + 1) = (es.length : Int) + 1 := IntWalk.i64_in _ (by omega)
      have HC := Lib.hid hC
      have HB := Lib.hid (And.intro hbad hok)
      clear hC hbad hok
      go_wp2_with fail
      refine (args18 _).mono ?_; rintro e wx ⟨rfl, rfl⟩
      go_upto_if 72 with (fail)
      go_cut [] (fun wx => ∃ (k1 : Nat) (b1 : Bool), CL w0 P A c L w k X 18 es v wx k1 b1 ∧ (b1 = true → o1 = .bad (L.drop k1)) ∧ (b1 = false → Ev (.list 1 (es.map El.x)) (L.drop k1) o1 ∧ k + 2 ≤ k1))
      case first =>
        by_cases h00 : es.length = 0
        · have t2 : ¬ (0 : Int) < (es.length : Int) := by omega
          have H00 := Lib.hid h00
          clear h00
          go_wp2_with fail
          go_meet
          refine ⟨k', b, HC.out, HB.out.1, fun e => ?_⟩
          obtain ⟨hc, hk2⟩ := HB.out.2 e
          unfold Cont at hc
          rw [hla, if_pos H00.out] at hc
          have : es = [] := List.length_eq_zero_iff.1 H00.out
          subst this
          exact ⟨hc, hk2⟩
        · exfalso; omega
      case rest =>
        obtain ⟨W4, rfl⟩ : ∃ V, V = wc := ⟨_, rfl⟩
        obtain ⟨k1, b1, hC4, hbad4, hok4⟩ := hcut
        obtain ⟨oy, hcc, hfin⟩ : ∃ oy, (∀ W, Below W4.heap.size W4 W → Calls Tryz.prog 11 #[.pointer (some ⟨P, 0, none⟩), .int .i64 1] W (EndsC w0 P A c L W k1 oy)) ∧
            (∀ k2, oy = .bad (L.drop k2) → o1 = .bad (L.drop k2)) ∧ (∀ k2 x, oy = .ok [x] (L.drop k2) → b1 = false ∧ Cont 1 (es.map El.x ++ [x]) (L.drop k2) o1) ∧ (b1 = false → k + 2 ≤ k1) := by
          cases b1 with
          | true =>
            refine ⟨.bad (L.drop k1), fun W hW => formula_lost HE.out (hC4.st.keep hW) 1, fun k2 e => ?_, fun k2 x e => Out.noConfusion e, fun e => Bool.noConfusion e⟩
            rw [← e]; exact hbad4 rfl
          | false =>
            obtain ⟨hev, hk2⟩ := hok4 rfl
            obtain ⟨oy, hoy, _⟩ := form_ex 0 (by omega) (L.drop k1)
            exact ⟨oy, fun W hW => HF.out k1 oy W (by omega) hC4.st.le hoy (hC4.st.keep hW), fun k2 e => cont_bad hev (e ▸ hoy), fun k2 x e => ⟨rfl, cont_step hev (e ▸ hoy) (by rw [hla]; exact hlt)⟩, fun _ => hk2⟩
        have HC4 := Lib.hid hC4
        have HCC := Lib.hid hcc
        have HFin := Lib.hid hfin
        clear hC4 hbad4 hok4 hcc hfin HC HB x0 x1
        go_upto_region 29 with fail
        have hen : ∀ (args : Array Value) (w : World), (callFunc 11 args).run Tryz.prog w = .ok (.enter 11 args) w := fun _ _ => by kernel_rfl
        refine region_fill [(0, 75), (1, 76), (2, 77), (3, 78), (4, 79), (5, 80), (6, 81)] (JC w0 P A c L W4 k1 oy X es v) (fun f => by simp only [fill, Act.put, List.setIfInBounds_toArray, List.set_cons_zero, List.set_cons_succ]; rfl) (by kernel_rfl) (by kernel_rfl) (by kernel_rfl) (fun f => jc_start f) ?_ ?_
        · intro F hFr
          refine ⟨?_, ?_, ?_, ?_, ?_, ?_, ?_, ?_, trivial⟩
          · as_aux_lemma =>
            intro D f wx hJ hD hdep K hK
            have hl : (Instr.fieldAt 26 (.pointer (some ⟨X, 0, none⟩)) 3).run Tryz.prog wx = .ok (.pointer (some ⟨X, 5, none⟩)) wx := by simp [go_sem]
            exact stepF_val rfl (op_field rfl (p := .pointer (some ⟨X, 0, none⟩)) (by rw [hFr]; kernel_rfl) hl) (by rw [hFr, hFr]; kernel_rfl) (hK (updf f 0 (.pointer (some ⟨X, 5, none⟩))) _ (jc_pure hJ 0 _ (.inl ⟨rfl, rfl⟩)))
          · as_aux_lemma =>
            intro D f wx hJ hD hdep K hK
            have e0 := hJ.1 (done hdep 0 (by kernel_rfl))
            obtain ⟨q1, q2⟩ := jc_cell HC4.out lP hJ (jc_d7 hJ hD)
            have hl : (Instr.loadAt 24 (.pointer (some ⟨X, 5, none⟩))).run Tryz.prog wx = .ok v wx := by simp [go_sem, q1]
            exact stepF_val rfl (op_load rfl (p := .pointer (some ⟨X, 5, none⟩)) ((show _ = f 0 from by rw [hFr]; kernel_rfl).trans e0) hl) (by rw [hFr, hFr]; kernel_rfl) (hK (updf f 1 v) _ (jc_pure hJ 1 _ (.inr (.inl ⟨rfl, rfl⟩))))
          · as_aux_lemma =>
            intro D f wx hJ hD hdep K hK
            exact stepF_val rfl (op_move rfl (v := .pointer (some ⟨P, 0, none⟩)) (by rw [hFr]; kernel_rfl)) (by rw [hFr, hFr]; kernel_rfl) (hK (updf f 2 (.pointer (some ⟨P, 0, none⟩))) _ (jc_pure hJ 2 _ (.inr (.inr (.inl ⟨rfl, rfl⟩)))))
          · as_aux_lemma =>
            intro D f wx hJ hD hdep K hK
            have e2 := hJ.2.2.1 (done hdep 2 (by kernel_rfl))
            have hB := (jc_call hJ hD).2.2.2
            refine stepF_callR rfl (op_enter rfl rfl (xs := #[.pointer (some ⟨P, 0, none⟩), .int .i64 1]) (by rw [← e2, hFr]; kernel_rfl) hen) (HCC.out wx hB) ?_
            intro e w5 he
            obtain ⟨p0, p1, p2, p3, p4, p5, pm, pc, k2, b2, rfl, hS5, hg5, hres⟩ := parts_of he
            have hk := hK (updf f 3 (.agg #[.int .i64 p0, .int .i64 p1, .int .i64 p2, .string p3, .string p4, .slice p5 pm pc])) w5 (jc_called hJ hD (got_of hB hS5 hg5 hres))
            refine ⟨_, rfl, ?_⟩
            rw [hFr] at hk ⊢
            exact hk
          · as_aux_lemma =>
            intro D f wx hJ hD hdep K hK
            obtain ⟨_, _, p0, p1, p2, p3, p4, p5, pm, pc, k2, b2, e3, hgot⟩ := jc_got hJ (done hdep 3 (by kernel_rfl)) hD
            have hl := slice_one wx p0 p1 p2 p3 p4 p5 pm pc
            exact stepF_val rfl (op_buildSlice rfl (qs := #[(0, .agg #[.int .i64 p0, .int .i64 p1, .int .i64 p2, .string p3, .string p4, .slice p5 pm pc])]) (by rw [← e3, hFr]; kernel_rfl) hl) (by rw [hFr, hFr]; kernel_rfl) (hK (updf f 4 (.slice (some ⟨wx.heap.size, 0, none⟩) 1 1)) _ (jc_built hJ (done hdep 3 (by kernel_rfl)) hD hgot))
          · as_aux_lemma =>
            intro D f wx hJ hD hdep K hK
            obtain ⟨_, _, p0, p1, p2, p3, p4, p5, pm, pc, k2, b2, w5, hgot, e4, rfl⟩ := jc_slice hJ (done hdep 4 (by kernel_rfl)) hD
            have e1 := hJ.2.1 (done hdep 1 (by kernel_rfl))
            have own5 := HC4.out.own.kept hgot.2.1 (.inr (HC4.out.far (by have := HC4.out.lt; omega)))
            have hs5 := hgot.2.1.size
            have hXW := (Array.getElem?_eq_some_iff.1 HC4.out.box).1
            refine step_append_lies _ (by rfl) (.tmp 76) (.tmp 79) 24 (by rfl) (X + 1) 26 i0 _ 6 80 Tryz.underlying24 hi hz0 hz1 hz2 rfl (by omega) v es.length (elC es) ((show _ = f 1 from by rw [hFr]; kernel_rfl).trans e1) (own5.alloc _) ⟨w5.heap.size, 0, none⟩ 1 1 [.int .i64 p0, .int .i64 p1, .int .i64 p2, .string p3, .string p4, .slice p5 pm pc] ((show _ = f 4 from by rw [hFr]; kernel_rfl).trans e4) (by rfl) (World.news_of_block (cs := #[.int .i64 p0, .int .i64 p1, .int .i64 p2, .string p3, .string p4, .slice p5 pm pc]) (t := 26) (fr := (0, 0)) (World.alloc_heap_new w5 _)) (by simp [Value.oneCell']) (by omega) (by unfold maxLen; omega) (by omega) (by simp; omega) (w5.heap.size + 1) (by simp) ?_
            intro g cap w6 hown6 hgrow6 hat6 hlt6
            have hk := hK (updf f 5 (.slice (some ⟨g, 0, none⟩) (es.length + 1) cap)) w6 (jc_appended hJ (done hdep 1 (by kernel_rfl)) (done hdep 4 (by kernel_rfl)) hD hgot ⟨hown6, hgrow6, hat6, hlt6⟩)
            rw [hFr] at hk ⊢
            exact hk
          · as_aux_lemma =>
            intro D f wx hJ hD hdep K hK
            have hl : (Instr.fieldAt 26 (.pointer (some ⟨X, 0, none⟩)) 3).run Tryz.prog wx = .ok (.pointer (some ⟨X, 5, none⟩)) wx := by simp [go_sem]
            exact stepF_val rfl (op_field rfl (p := .pointer (some ⟨X, 0, none⟩)) (by rw [hFr]; kernel_rfl) hl) (by rw [hFr, hFr]; kernel_rfl) (hK (updf f 6 (.pointer (some ⟨X, 5, none⟩))) _ (jc_pure hJ 6 _ (.inr (.inr (.inr ⟨rfl, rfl⟩)))))
          · as_aux_lemma =>
            intro D f wx hJ hD hdep K hK
            obtain ⟨_, _, _, p0, p1, p2, p3, p4, p5, pm, pc, k2, b2, w5, g, cap, hgot, happ, e5⟩ := jc_app hJ (done hdep 5 (by kernel_rfl)) hD
            have e6 := hJ.2.2.2.1 (done hdep 6 (by kernel_rfl))
            obtain ⟨q1, q2⟩ := jc_cell HC4.out lP hJ hD
            have hl : (Instr.storeAt 24 (.pointer (some ⟨X, 5, none⟩)) (.slice (some ⟨g, 0, none⟩) (es.length + 1) cap)).run Tryz.prog wx = .ok () (wx.setCell ⟨X, 5, none⟩ (.slice (some ⟨g, 0, none⟩) (es.length + 1) cap)) := by simp [go_sem, q1, q2]
            exact stepF_skip rfl rfl (op_store rfl ((show _ = f 6 from by rw [hFr]; kernel_rfl).trans e6) ((show _ = f 5 from by rw [hFr]; kernel_rfl).trans e5) hl) (hK f _ (jc_stored hJ (done hdep 5 (by kernel_rfl)) hD hgot happ))
        · intro D f wx hJ hall
          have hres : ∃ (es' : List El) (v' : Value) (k2 : Nat) (b2 : Bool), es'.length = es.length + 1 ∧ CL w0 P A c L w k X 18 es' v' wx k2 b2 ∧ (b2 = true → o1 = .bad (L.drop k2)) ∧ (b2 = false → Cont 1 (es'.map El.x) (L.drop k2) o1 ∧ k + 2 ≤ k2) := by
            obtain ⟨p0, p1, p2, p3, p4, p5, pm, pc, k2, b2, w5, g, cap, w6', hg, ha, rfl⟩ := jc_end hJ (hall 7 (by decide))
            obtain ⟨f1, f2, f3⟩ := HFin.out
            rcases hg.2.2 with ⟨rfl, e⟩ | ⟨rfl, h1, x, e, hx⟩
            · exact ⟨_, _, k2, true, by simp, HC4.out.more lP HE.out.hP hg ha (fun e => Bool.noConfusion e) (fun e => Bool.noConfusion e) (.mk ⟨0, 0, 0, ⟨#[]⟩, ⟨#[]⟩⟩ []) (fun e => Bool.noConfusion e), fun _ => f1 k2 e, fun e => Bool.noConfusion e⟩
            · obtain ⟨e1, e2⟩ := f2 k2 x e
              exact ⟨_, _, k2, false, by simp, HC4.out.more lP HE.out.hP hg ha (fun _ => by have := f3 e1; omega) (fun _ => e1) x (fun _ => hx), fun e => Bool.noConfusion e, fun _ => ⟨by rw [List.map_append]; exact e2, by have := f3 e1; omega⟩⟩
          obtain ⟨es', v', k2, b2, hl9, hC9, hbad9, hok9⟩ := hres
          have HC9 := Lib.hid (And.intro hl9 (And.intro hC9 (And.intro hbad9 hok9)))
          clear hl9 hC9 hbad9 hok9 HC4 HCC HFin hJ hall
          go_wp2_with fail
          go_roundw
          case rel => exact ⟨es', v', k2, b2, by rw [HC9.out.1]; go_num, by rw [HC9.out.1]; omega, HC9.out.2⟩
          case measure => simp [intOf]; omega
    · have hln : es.length = 1 := by omega
      have t1 : ¬ (es.length : Int) < 1 := by omega
      have h00' : ¬ es.length = 0 := by omega
      have h01' : 0 < es.length := by omega
      have h02' : es.length ≤ 1000 := by omega
      have h03' := hlt
      have HLN := Lib.hid (And.intro h00' (And.intro h03' (And.intro h01' h02')))
      have hp := pass_c HE.out hC.st ⟨#[41]⟩ (by simp)
      obtain ⟨g, cap, rfl, hgl, _, hlc, hcm, hcl⟩ := PsL.own_form hC.own h01'
      have HPs := Lib.hid hp
      have HC := Lib.hid hC
      have HB := Lib.hid (And.intro hbad hok)
      clear hp hC hbad hok hcl hln h00' h01' h02' h03' hlt hle hlc hcm
      go_wp2_with fail
      refine (args18 _).mono ?_; rintro e wx ⟨rfl, rfl⟩
      go_wp2_with fail
      refine HPs.out.mono ?_
      rintro e w7 ⟨rfl, hg7, hp7⟩
      obtain ⟨k7, b7, hC7, ho7⟩ : ∃ k7 b7, CL w0 P A c L w k X 18 es (.slice (some ⟨g, 0, none⟩) es.length cap) w7 k7 b7 ∧ ((b7 = true ∧ o1 = .bad (L.drop k7)) ∨ (b7 = false ∧ o1 = .ok (es.map El.x) (L.drop k7))) := by
        by_cases hnn : b = false ∧ nextS (L.drop k') = [41]
        · rw [if_pos hnn] at hp7
          obtain ⟨rfl, hnn⟩ := hnn
          obtain ⟨hc, hk2⟩ := HB.out.2 rfl
          unfold Cont at hc
          rw [hla, if_neg HLN.out.1, if_neg HLN.out.2.1] at hc
          have := hc.1 ((next_isNext (HQ1.out _) _ (by simp) (by simp)).1 hnn)
          rw [List.tail_drop] at this
          exact ⟨k' + 1, false, HC.out.keep lP hp7.2 hg7 (fun _ => ⟨rfl, by omega⟩), .inr ⟨rfl, this⟩⟩
        · rw [if_neg hnn] at hp7
          refine ⟨k', true, HC.out.keep lP hp7 hg7 (fun e => Bool.noConfusion e), .inl ⟨rfl, ?_⟩⟩
          cases b with
          | true => exact HB.out.1 rfl
          | false =>
            obtain ⟨hc, hk2⟩ := HB.out.2 rfl
            unfold Cont at hc
            rw [hla, if_neg HLN.out.1, if_neg HLN.out.2.1] at hc
            exact hc.2 (next_no (HQ1.out _) (by simp) (by simp) (fun e => hnn ⟨rfl, e⟩))
      have hend := call_fin (op := 18) hC7 HB0.out lP HLN.out.2.2.1 HLN.out.2.2.2 ho7
      obtain ⟨y0, y1⟩ := cells_of hC7.box
      obtain ⟨z0, z1⟩ := cells_of hC7.res
      have HEnd := Lib.hid hend
      clear hend hC7 ho7 hp7 hg7 x0 x1
      go_wp2_with fail
      refine bodyPost_ret (v := .agg #[.int .i64 18, .int .i64 0, .int .i64 0, .string ⟨#[]⟩, .string ⟨#[]⟩, .slice (some ⟨g, 0, none⟩) es.length cap]) (by simp [results, Tryz.results25, go_sem, z0]) rfl HEnd.out
end
end Go.Proofs.YtjjchbafobcofaaGreatDoor.Cl
