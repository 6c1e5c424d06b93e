/- Raw things in memory, and the statements' own generator of formulas: what it gives. The statements' own generator of formulas: constants and leaves. -/
import Derived.Test.YtonlkmkfcaadlaaRawValue
import Derived.Test.YtonlkmkfcaadlaaEx
import Derived.RangeFuncBox
import Derived.Deep.RegionHeld3
import Derived.Deep.AppendLies
import Derived.Deep.RegionLaw
import Derived.OwnWalk
import Derived.Deep.RegionWith
import Derived.RegionTactic
import Derived.BigRegion
import Derived.Laws.OwnMore
import Derived.Laws.Pointers
namespace Go.Proofs.Ytonlkmkfcaadlaa.RawL
open Go.RowKit
open ValM LexM NumM ExM Kit ExL RawV Within
set_option linter.unusedVariables false

/-- A slice of raw things: each has three numbers and a text. -/
def Raws (w : World) (A : Option Addr) (n c : Nat) : Prop :=
  n ≤ c ∧ c ≤ maxLen ∧ ∀ i, i < n → ∃ (a : Addr) (k x y : Int) (t : ByteArray), A = some a ∧ w.cell? (a.add (i * 4)) = some (.int .i64 k) ∧ w.cell? ⟨(a.add (i * 4)).block, (a.add (i * 4)).off + 1, none⟩ = some (.int .i64 x) ∧ w.cell? ⟨(a.add (i * 4)).block, (a.add (i * 4)).off + 2, none⟩ = some (.int .i64 y) ∧ w.cell? ⟨(a.add (i * 4)).block, (a.add (i * 4)).off + 3, none⟩ = some (.string t) ∧
    (Lit.int .i64 k).wf = true ∧ (Lit.int .i64 x).wf = true ∧ (Lit.int .i64 y).wf = true ∧ t.size ≤ maxLen
theorem Raws.keep {w w' : World} {A : Option Addr} {n c : Nat} (h : Raws w A n c) (hk : ∀ (p : Addr) (v0 v1 v2 : Value), w.cell? p = some v0 → w.cell? ⟨p.block, p.off + 2, none⟩ = some v2 → w'.heap[p.block]? = w.heap[p.block]?) : Raws w' A n c :=
  ⟨h.1, h.2.1, fun i hi => by
    obtain ⟨a, k, x, y, t, e, c0, c1, c2, c3, r⟩ := h.2.2 i hi
    have hb := hk _ _ (.bool true) _ c0 c2
    exact ⟨a, k, x, y, t, e, (World.cell?_of_block hb).trans c0, (World.cell?_of_block (a := ⟨(a.add (i * 4)).block, (a.add (i * 4)).off + 1, none⟩) hb).trans c1, (World.cell?_of_block (a := ⟨(a.add (i * 4)).block, (a.add (i * 4)).off + 2, none⟩) hb).trans c2, (World.cell?_of_block (a := ⟨(a.add (i * 4)).block, (a.add (i * 4)).off + 3, none⟩) hb).trans c3, r⟩⟩
/-- What the generator's steps do to memory: its own block alone is written. -/
abbrev Gr (G : Nat) (w w' : World) : Prop := w.grownBy w' (some G)
theorem Gr.of_below {G : Nat} {w w' : World} (h : Below w.heap.size w w') : Gr G w w' := ⟨h.os, h.tape, h.output, h.size, fun k hk _ => h.block k hk⟩
theorem Gr.refl (G : Nat) (w : World) : Gr G w w := Gr.of_below (Below.refl _ _)
theorem Gr.trans {G : Nat} {a b c : World} (h : Gr G a b) (g : Gr G b c) : Gr G a c := ⟨g.os.trans h.os, g.tape.trans h.tape, g.output.trans h.output, Nat.le_trans h.size g.size, fun k hk hne => (g.block k (Nat.lt_of_lt_of_le hk h.size) hne).trans (h.block k hk hne)⟩
end Go.Proofs.Ytonlkmkfcaadlaa.RawL
namespace Go.Proofs.Ytonlkmkfcaadlaa.GenL
open Go.RowKit
open ValM LexM NumM ExM Kit ExL RawV Within RawL
set_option linter.unusedVariables false

theorem own_below {w w1 : World} {base : Nat} {e : TypeId} {size : Nat} {v : Value} {n : Nat} {xs : List Value} (h : w.ownsRow base e size v n xs) (hb : Below w.heap.size w w1) : w1.ownsRow base e size v n xs :=
  h.kept (row := none) ⟨hb.os, hb.tape, hb.output, hb.size, fun k hk _ => hb.block k hk⟩ (by cases hv : v.ownBlock <;> simp)
theorem own_slice {w : World} {base : Nat} {e : TypeId} {size : Nat} {v : Value} {n : Nat} {xs : List Value} (h : w.ownsRow base e size v n xs) : ∃ A c, v = .slice A n c := by
  rcases h.2 with ⟨h1, h2⟩ | ⟨g, cap, cur, h1, _⟩
  · exact ⟨none, 0, by rw [h2]; exact h1⟩
  · exact ⟨some ⟨g, 0, none⟩, cap, h1⟩
theorem own_form {w : World} {base : Nat} {e : TypeId} {size : Nat} {v : Value} {n : Nat} {xs : List Value} (h : w.ownsRow base e size v n xs) (hn : 0 < n) :
    ∃ g cap, v = .slice (some ⟨g, 0, none⟩) n cap ∧ base ≤ g ∧ g < w.heap.size ∧ n ≤ cap ∧ cap ≤ maxLen ∧ ∀ j, j < n * size → w.cell? ⟨g, j, none⟩ = xs[j]? := by
  rcases h.2 with ⟨_, h2⟩ | ⟨g, cap, cur, h1, h2, h3, h4, h5, _⟩
  · omega
  · subst h1
    have hl := h.lt g rfl
    exact ⟨g, cap, rfl, h2, hl.2, h4, h5, fun j hj => h.cellAt j hj⟩

theorem b_set {w w1 : World} {p : Addr} {v : Value} (h : Below w.heap.size w w1) (hp : w.heap.size ≤ p.block) : Below w.heap.size w (w1.setCell p v) := h.setCell hp v
/-! ### constant -/
def ConstOut (k : Int) (w : World) (e : Ending) (w' : World) : Prop :=
  ∃ (n : Int) (s : ByteArray), e = .returned (.agg #[.int .i64 1, .int .i64 (vK k), .int .i64 n, .string s, .string ⟨#[]⟩, .slice none 0 0]) ∧ knownB (vK k) n s.data.toList = true ∧ (vK k = 1 → 0 ≤ n) ∧ Below w.heap.size w w'
theorem known_int {n : Int} (h : okN n = true) : knownB 1 n [] = true := by
  unfold knownB valE numE; rw [if_pos rfl, h]; rfl
/-! ### fields in memory -/
structure Fd where
  nm : ByteArray
  kind : Int
  ty : Int
  d : Nd
  A : Option Addr
  n : Nat
  c : Nat
def FdAt (w : World) (p : Addr) (f : Fd) : Prop :=
  w.cell? p = some (.string f.nm) ∧ w.cell? ⟨p.block, p.off + 1, none⟩ = some (.int .i64 f.kind) ∧ w.cell? ⟨p.block, p.off + 2, none⟩ = some (.int .i64 f.ty) ∧ w.cell? ⟨p.block, p.off + 3, none⟩ = some (.int .i64 f.d.op) ∧ w.cell? ⟨p.block, p.off + 4, none⟩ = some (.int .i64 f.d.k) ∧ w.cell? ⟨p.block, p.off + 5, none⟩ = some (.int .i64 f.d.n) ∧ w.cell? ⟨p.block, p.off + 6, none⟩ = some (.string f.d.s) ∧ w.cell? ⟨p.block, p.off + 7, none⟩ = some (.string f.d.nm) ∧ w.cell? ⟨p.block, p.off + 8, none⟩ = some (.slice f.A f.n f.c)
theorem FdAt.of_block {w w' : World} {p : Addr} {f : Fd} (h : FdAt w p f) (hb : w'.heap[p.block]? = w.heap[p.block]?) : FdAt w' p f := by
  obtain ⟨h0, h1, h2, h3, h4, h5, h6, h7, h8⟩ := h
  exact ⟨(World.cell?_of_block hb).trans h0, (World.cell?_of_block (a := ⟨p.block, p.off + 1, none⟩) hb).trans h1, (World.cell?_of_block (a := ⟨p.block, p.off + 2, none⟩) hb).trans h2, (World.cell?_of_block (a := ⟨p.block, p.off + 3, none⟩) hb).trans h3, (World.cell?_of_block (a := ⟨p.block, p.off + 4, none⟩) hb).trans h4, (World.cell?_of_block (a := ⟨p.block, p.off + 5, none⟩) hb).trans h5, (World.cell?_of_block (a := ⟨p.block, p.off + 6, none⟩) hb).trans h6, (World.cell?_of_block (a := ⟨p.block, p.off + 7, none⟩) hb).trans h7, (World.cell?_of_block (a := ⟨p.block, p.off + 8, none⟩) hb).trans h8⟩
theorem FdAt.lt {w : World} {p : Addr} {f : Fd} (h : FdAt w p f) : p.block < w.heap.size := cell_lt' h.1
def Flds (w : World) (A : Option Addr) (fs : List Fd) : Prop := ∀ (i : Nat) (h : i < fs.length), ∃ a, A = some a ∧ FdAt w (a.add (i * 9)) fs[i]
theorem Flds.below {w w' : World} {A : Option Addr} {fs : List Fd} (h : Flds w A fs) (hb : Below w.heap.size w w') : Flds w' A fs := fun i hi => by
  obtain ⟨a, e, hf⟩ := h i hi
  exact ⟨a, e, hf.of_block (hb.block _ hf.lt)⟩
theorem Gr.set {G : Nat} {w w1 : World} {p : Addr} {v : Value} (h : Gr G w w1) (hp : w.heap.size ≤ p.block) : Gr G w (w1.setCell p v) :=
  ⟨h.os, h.tape, h.output, by simp [World.setCell]; exact h.size, fun k hk hne => (Below.heap_setCell w1 p v k (by omega)).trans (h.block k hk hne)⟩
/-! ### leaf -/
/-- A leaf of a type: a constant, or one of the fields of that type. -/
def LeafD (fs : List Fd) (kind : Int) (d : Nd) : Prop :=
  (d.op = 1 ∧ d.nm = ⟨#[]⟩ ∧ d.k = vK kind ∧ knownB d.k d.n d.s.data.toList = true ∧ (d.k = 1 → 0 ≤ d.n)) ∨
  (d.op = 2 ∧ d.k = 0 ∧ d.n = 0 ∧ d.s = ⟨#[]⟩ ∧ ∃ f ∈ fs, f.nm = d.nm ∧ f.ty = kind)
structure LInv (W0 : World) (fs : List Fd) (kind : Int) (k : Nat) (names : List ByteArray) (v : Value) (wr : World) : Prop where
  le : k ≤ fs.length
  own : wr.ownsRow W0.heap.size 9 1 v names.length (names.map Value.string)
  few : names.length ≤ k
  all : ∀ x ∈ names, ∃ f ∈ fs, f.nm = x ∧ f.ty = kind
  below : Below W0.heap.size W0 wr
theorem infoStr : (Try.prog.info? 9).map (fun i => (i.zero, i.size, i.bytes)) = some (some (.string ⟨#[]⟩), 1, 16) := by kernel_rfl
theorem LInv.step {W0 wr w3 : World} {fs : List Fd} {kind : Int} {k : Nat} {names : List ByteArray} {v v' : Value} {o1 o2 : Obj} (h : LInv W0 fs kind k names v wr) (hk : k < fs.length) (hty : fs[k].ty = kind)
    (ho : w3.ownsRow W0.heap.size 9 1 v' (names.length + 1) (names.map Value.string ++ [.string fs[k].nm])) (hg : ((wr.alloc o1).alloc o2).grownBy w3 v.ownBlock) : LInv W0 fs kind (k + 1) (names ++ [fs[k].nm]) v' w3 := by
  have hs := h.below.size
  refine ⟨hk, by simpa using ho, by have := h.few; simp; omega, fun x hx => ?_, ((h.below.alloc hs _).alloc (by simp; omega) _).grown hg (by simp; omega) (fun g hg => (h.own.lt g hg).1)⟩
  rcases List.mem_append.1 hx with hx | hx
  · exact h.all x hx
  · simp at hx; exact ⟨fs[k], List.getElem_mem _, hx.symm, hty⟩
theorem LInv.skip {W0 wr : World} {fs : List Fd} {kind : Int} {k : Nat} {names : List ByteArray} {v : Value} {o1 : Obj} (h : LInv W0 fs kind k names v wr) (hk : k < fs.length) : LInv W0 fs kind (k + 1) names v (wr.alloc o1) :=
  ⟨hk, h.own.alloc o1, by have := h.few; omega, h.all, h.below.alloc h.below.size _⟩

end Go.Proofs.Ytonlkmkfcaadlaa.GenL
