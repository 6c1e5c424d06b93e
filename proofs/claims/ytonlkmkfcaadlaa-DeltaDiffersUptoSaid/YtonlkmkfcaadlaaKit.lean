/- Small lemmas that many of these texts want. -/
import Derived.Below
import Derived.Deep.Draws
import Derived.WalkKit
import Derived.ProofKit
namespace Go.Proofs.Ytonlkmkfcaadlaa.Kit
open Go.RowKit
theorem ret_int {k : IntKind} {a b : Int} (h : a = b) : Ending.returned (.int k a) = .returned (.int k b) := by rw [h]
theorem ret_bool {a b : Bool} (h : a = b) : Ending.returned (.bool a) = .returned (.bool b) := by rw [h]
theorem ret_pair {k j : IntKind} {a b c d : Int} (h : a = b) (g : c = d) : Ending.returned (.tuple #[.int k a, .int j c]) = .returned (.tuple #[.int k b, .int j d]) := by rw [h, g]
theorem b_drewN {B : Nat} {a w : World} (h : Below B a w) (n : Nat) : Below B a (w.drewN n) := ⟨h.os, h.tape, h.output, h.size, h.block⟩
/-- What a second call leaves alone, the two leave alone. -/
theorem b_trans {w w1 w2 : World} (h1 : Below w.heap.size w w1) (h2 : Below w1.heap.size w1 w2) : Below w.heap.size w w2 := h1.trans (h2.mono h1.size)
/-- One new block. -/
theorem b_new (w : World) (o : Obj) : Below w.heap.size w (w.alloc o) := (Below.refl _ _).alloc (Nat.le_refl _) _
theorem b_then {w w1 : World} {o : Obj} (h : Below (w.alloc o).heap.size (w.alloc o) w1) : Below w.heap.size w w1 := (b_new w o).trans (h.mono (by simp))
theorem b_more {w w1 : World} (h : Below w.heap.size w w1) (o : Obj) : Below w.heap.size w (w1.alloc o) := h.trans ((b_new w1 o).mono h.size)
theorem b_undrew {w w1 : World} (h : Below w.drew.heap.size w.drew w1) : Below w.heap.size w w1 := ⟨h.os, h.tape, h.output, h.size, h.block⟩
theorem b_undrewN {w w1 : World} {n : Nat} (h : Below (w.drewN n).heap.size (w.drewN n) w1) : Below w.heap.size w w1 := ⟨h.os, h.tape, h.output, h.size, h.block⟩
theorem b_drew {B : Nat} {a w : World} (h : Below B a w) : Below B a w.drew := ⟨h.os, h.tape, h.output, h.size, h.block⟩
/-- One new block, a draw, then a call. -/
theorem b_thenD {w w1 : World} {o : Obj} (h : Below (w.alloc o).drew.heap.size (w.alloc o).drew w1) : Below w.heap.size w w1 := b_then (b_undrew h)
theorem bcell {W w1 : World} (hb : Below W.heap.size W w1) : (∀ b o, b < W.heap.size → w1.cell? ⟨b, o, none⟩ = W.cell? ⟨b, o, none⟩) ∧ (∀ b o, b < W.heap.size → w1.frozen? ⟨b, o, none⟩ = W.frozen? ⟨b, o, none⟩) :=
  ⟨fun b o h => hb.cell (p := ⟨b, o, none⟩) h, fun b o h => hb.frozen (p := ⟨b, o, none⟩) h⟩
/-- A boxed value of three cells is there still behind a call. -/
theorem box3 {W w1 : World} (B : Nat) (k n : Int) (s : ByteArray) (hb : Below W.heap.size W w1) (h : B < W.heap.size) (h0 : W.cell? ⟨B, 0, none⟩ = some (.int .i64 k)) (h1 : W.cell? ⟨B, 1, none⟩ = some (.int .i64 n)) (h2 : W.cell? ⟨B, 2, none⟩ = some (.string s)) :
    w1.cell? ⟨B, 0, none⟩ = some (.int .i64 k) ∧ w1.cell? ⟨B, 1, none⟩ = some (.int .i64 n) ∧ w1.cell? ⟨B, 2, none⟩ = some (.string s) ∧ B < w1.heap.size :=
  ⟨(hb.cell (p := ⟨B, 0, none⟩) h).trans h0, (hb.cell (p := ⟨B, 1, none⟩) h).trans h1, (hb.cell (p := ⟨B, 2, none⟩) h).trans h2, Nat.lt_of_lt_of_le h hb.size⟩
theorem box4 {W w1 : World} (B : Nat) (k n m : Int) (s : ByteArray) (hb : Below W.heap.size W w1) (h : B < W.heap.size) (h0 : W.cell? ⟨B, 0, none⟩ = some (.int .i64 k)) (h1 : W.cell? ⟨B, 1, none⟩ = some (.int .i64 n)) (h2 : W.cell? ⟨B, 2, none⟩ = some (.int .i64 m)) (h3 : W.cell? ⟨B, 3, none⟩ = some (.string s)) :
    w1.cell? ⟨B, 0, none⟩ = some (.int .i64 k) ∧ w1.cell? ⟨B, 1, none⟩ = some (.int .i64 n) ∧ w1.cell? ⟨B, 2, none⟩ = some (.int .i64 m) ∧ w1.cell? ⟨B, 3, none⟩ = some (.string s) ∧ B < w1.heap.size :=
  ⟨(hb.cell (p := ⟨B, 0, none⟩) h).trans h0, (hb.cell (p := ⟨B, 1, none⟩) h).trans h1, (hb.cell (p := ⟨B, 2, none⟩) h).trans h2, (hb.cell (p := ⟨B, 3, none⟩) h).trans h3, Nat.lt_of_lt_of_le h hb.size⟩
/-- A block with room below: where it lies behind a call. -/
theorem lt_b {B : Nat} {W w1 : World} (h : Below W.heap.size W w1) (g : B < W.heap.size) : B < w1.heap.size := Nat.lt_of_lt_of_le g h.size
/-- The same as a rule for the walk: whatever lay below lies below. -/
theorem zlt {W w1 : World} (h : Below W.heap.size W w1) : ∀ b, b < W.heap.size → b < w1.heap.size := fun _ g => Nat.lt_of_lt_of_le g h.size
theorem sz_set (w : World) (a : Addr) (v : Value) : (w.setCell a v).heap.size = w.heap.size := by simp [World.setCell]
theorem b_set3 {w w1 : World} (h : Below w.heap.size w w1) (b : Nat) (hb : w.heap.size ≤ b) (x y z : Value) : Below w.heap.size w (((w1.setCell ⟨b, 0, none⟩ x).setCell ⟨b, 1, none⟩ y).setCell ⟨b, 2, none⟩ z) :=
  ((h.setCell (p := ⟨b, 0, none⟩) hb _).setCell (p := ⟨b, 1, none⟩) hb _).setCell (p := ⟨b, 2, none⟩) hb _
end Go.Proofs.Ytonlkmkfcaadlaa.Kit
