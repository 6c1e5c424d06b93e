/- Pages: how they lie, their places, whether they may be; page.Find, Of, and the reference's. -/
import Derived.Test.YtdlfhldboagbeaaFrmBase
import Derived.Test.YtdlfhldboagbeaaFldCheck
import Derived.Test.YtdlfhldboagbeaaSRow
import Derived.Test.YtdlfhldboagbeaaSMap
namespace Go.Proofs.Ytdlfhldboagbeaa.PgM
open Go.RowKit
open ValM LexM NumM ExM NmM Kit ExL ExP ExN ExC RawV Within RawL GenL FldP FldR FldC FrmM TyM Ty NmC NmP NmA NmT SMp
set_option linter.unusedVariables false

/-! ### memory -/
def PgAt (w : World) (p : Addr) (e : PE) : Prop :=
  w.cell? p = some (.string e.nm) ∧ w.cell? ⟨p.block, p.off + 1, none⟩ = some (.slice e.F e.fs.length e.fc) ∧ w.cell? ⟨p.block, p.off + 2, none⟩ = some (.int .i64 e.x.d.op) ∧ w.cell? ⟨p.block, p.off + 3, none⟩ = some (.int .i64 e.x.d.k) ∧ w.cell? ⟨p.block, p.off + 4, none⟩ = some (.int .i64 e.x.d.n) ∧
  w.cell? ⟨p.block, p.off + 5, none⟩ = some (.string e.x.d.s) ∧ w.cell? ⟨p.block, p.off + 6, none⟩ = some (.string e.x.d.nm) ∧ w.cell? ⟨p.block, p.off + 7, none⟩ = some (.slice e.B e.m e.c)
theorem PgAt.of_block {w w' : World} {p : Addr} {e : PE} (h : PgAt w p e) (hb : w'.heap[p.block]? = w.heap[p.block]?) : PgAt w' p e := by
  have k : ∀ q : Addr, q.block = p.block → w'.cell? q = w.cell? q := fun q hq => World.cell?_of_block (by rw [hq]; exact hb)
  obtain ⟨a0, a1, a2, a3, a4, a5, a6, a7⟩ := h
  exact ⟨(k p rfl).trans a0, (k ⟨p.block, p.off + 1, none⟩ rfl).trans a1, (k ⟨p.block, p.off + 2, none⟩ rfl).trans a2, (k ⟨p.block, p.off + 3, none⟩ rfl).trans a3, (k ⟨p.block, p.off + 4, none⟩ rfl).trans a4, (k ⟨p.block, p.off + 5, none⟩ rfl).trans a5, (k ⟨p.block, p.off + 6, none⟩ rfl).trans a6, (k ⟨p.block, p.off + 7, none⟩ rfl).trans a7⟩
theorem PgAt.lt {w : World} {p : Addr} {e : PE} (h : PgAt w p e) : p.block < w.heap.size := cell_lt' h.1
/-- A slice of pages. -/
def Pgs (w : World) (A : Option Addr) (ps : List PE) : Prop := ∀ (i : Nat) (h : i < ps.length), ∃ a, A = some a ∧ PgAt w (a.add (i * 8)) ps[i]
theorem Pgs.below {w w' : World} {A : Option Addr} {ps : List PE} (h : Pgs w A ps) (hb : Below w.heap.size w w') : Pgs w' A ps := fun i hi => by
  obtain ⟨a, e, hf⟩ := h i hi
  exact ⟨a, e, hf.of_block (hb.block _ hf.lt)⟩
theorem Pgs.take {w : World} {A : Option Addr} {ps : List PE} (h : Pgs w A ps) (k : Nat) : Pgs w A (ps.take k) := fun i hi => by
  obtain ⟨a, e, hf⟩ := h i (by simp at hi; omega)
  exact ⟨a, e, by simpa using hf⟩
/-- A row of texts, wherever it lies. -/
def TRow (w : World) (A : Option Addr) (L : List ByteArray) : Prop := ∀ (j : Nat) (h : j < L.length), ∃ a : Addr, A = some a ∧ w.cell? (a.add j) = some (.string L[j])
theorem TRow.below {w w' : World} {A : Option Addr} {L : List ByteArray} (h : TRow w A L) (hb : Below w.heap.size w w') : TRow w' A L := fun j hj => by
  obtain ⟨a, e, hc⟩ := h j hj
  exact ⟨a, e, (hb.cell (cell_lt' hc)).trans hc⟩
theorem TRow.of_srow {w : World} {A : Option Addr} {L : List ByteArray} (h : SRow w A L) : TRow w A L := fun j hj => by
  obtain ⟨g, e, hc⟩ := h j hj
  refine ⟨_, e, ?_⟩
  by_cases h0 : j = 0
  · subst h0; exact hc
  · unfold Addr.add; rw [if_neg h0, Nat.zero_add]; exact hc
/-- What a page holds. -/
structure PgOk (w : World) (e : PE) : Prop where
  nm : e.nm.size ≤ maxLen
  row : TRow w e.F e.fs
  txt : ∀ s ∈ e.fs, s.size ≤ maxLen
  len : e.fs.length ≤ maxLen
  skip : Is w e.x e.x.d e.B e.m
theorem PgOk.below {w w' : World} {e : PE} (h : PgOk w e) (hb : Below w.heap.size w w') : PgOk w' e := ⟨h.nm, h.row.below hb, h.txt, h.len, h.skip.below hb⟩
def PgsOk (w : World) (ps : List PE) : Prop := ∀ e ∈ ps, PgOk w e
theorem PgsOk.below {w w' : World} {ps : List PE} (h : PgsOk w ps) (hb : Below w.heap.size w w') : PgsOk w' ps := fun e he => (h e he).below hb
/-- The box of a page. -/
def pgBox (e : PE) : Obj := .cells #[.string e.nm, .slice e.F e.fs.length e.fc, .int .i64 e.x.d.op, .int .i64 e.x.d.k, .int .i64 e.x.d.n, .string e.x.d.s, .string e.x.d.nm, .slice e.B e.m e.c] 60
theorem pg_cells (w : World) (e : PE) (V : World) (hV : Below (w.alloc (pgBox e)).heap.size (w.alloc (pgBox e)) V) : V.cell? ⟨w.heap.size, 0, none⟩ = some (.string e.nm) ∧ V.cell? ⟨w.heap.size, 1, none⟩ = some (.slice e.F e.fs.length e.fc) ∧ V.cell? ⟨w.heap.size, 2, none⟩ = some (.int .i64 e.x.d.op) ∧ V.cell? ⟨w.heap.size, 3, none⟩ = some (.int .i64 e.x.d.k) ∧ V.cell? ⟨w.heap.size, 4, none⟩ = some (.int .i64 e.x.d.n) ∧ V.cell? ⟨w.heap.size, 5, none⟩ = some (.string e.x.d.s) ∧ V.cell? ⟨w.heap.size, 6, none⟩ = some (.string e.x.d.nm) ∧ V.cell? ⟨w.heap.size, 7, none⟩ = some (.slice e.B e.m e.c) := by
  have e1 : V.heap[w.heap.size]? = _ := (hV.block _ (by simp)).trans (World.alloc_heap_new w (pgBox e))
  unfold pgBox at e1
  exact ⟨by simp [World.cell?, e1], by simp [World.cell?, e1], by simp [World.cell?, e1], by simp [World.cell?, e1], by simp [World.cell?, e1], by simp [World.cell?, e1], by simp [World.cell?, e1], by simp [World.cell?, e1]⟩
/-! ### places -/
theorem fi_hit {α : Type} {P : α → Bool} {l : List α} {k : Nat} (hk : k < l.length) (h : ∀ j (hj : j < l.length), j < k → P l[j] = false) (he : P l[k] = true) : l.findIdx P = k :=
  (List.findIdx_eq hk).2 ⟨he, fun j hj => h j (by omega) hj⟩
theorem fi_none {α : Type} {P : α → Bool} {l : List α} (h : ∀ j (hj : j < l.length), P l[j] = false) : l.findIdx P = l.length :=
  List.findIdx_eq_length.2 fun x hx => by
    obtain ⟨j, hj, rfl⟩ := List.mem_iff_getElem.1 hx
    exact h j hj
theorem fi_at {α : Type} {P : α → Bool} {l : List α} (h : l.findIdx P < l.length) : P l[l.findIdx P] = true ∧ ∀ j (hj : j < l.length), j < l.findIdx P → P l[j] = false :=
  ⟨List.findIdx_getElem, fun j hj hlt => by simpa using List.not_of_lt_findIdx hlt⟩
theorem fi_take {α : Type} {P : α → Bool} {l : List α} {k : Nat} (hk : k ≤ l.length) : (l.take k).findIdx P < k ↔ l.findIdx P < k := by
  have hl : (l.take k).length = k := by rw [List.length_take]; omega
  constructor
  · intro h
    obtain ⟨h1, h2⟩ := fi_at (l := l.take k) (P := P) (by omega)
    have := fi_hit (l := l) (P := P) (k := (l.take k).findIdx P) (by omega) (fun j hj hjk => by have := h2 j (by omega) hjk; simpa using this) (by simpa using h1)
    omega
  · intro h
    obtain ⟨h1, h2⟩ := fi_at (l := l) (P := P) (by omega)
    have := fi_hit (l := l.take k) (P := P) (k := l.findIdx P) (by omega) (fun j hj hjk => by have := h2 j (by omega) hjk; simpa using this) (by simpa using h1)
    omega
def nmP (s : ByteArray) (e : PE) : Bool := decide (e.nm = s)
def onP (s : ByteArray) (e : PE) : Bool := hasB e.fs s
def pAt (ps : List PE) (s : ByteArray) : Nat := ps.findIdx (nmP s)
def pOf (ps : List PE) (s : ByteArray) : Nat := ps.findIdx (onP s)
/-! ### P11.2 -/
/-- The names on the first k pages. -/
def metP (ps : List PE) (k : Nat) : List ByteArray := ((ps.take k).map PE.fs).flatten
/-- One name. -/
def nameE (fs : List GenL.Fd) (met L : List ByteArray) (j : Nat) : Int :=
  if h : j < L.length then (if atF fs L[j] < fs.length then (if hasB (met ++ L.take j) L[j] = true then 6 else 0) else 5) else 0
/-- One page. -/
def pageE (fs : List GenL.Fd) (ps : List PE) (k : Nat) : Int :=
  if h : k < ps.length then
    (if LexB.nameE ps[k].nm.data.toList = 0 then (if pAt ps ps[k].nm < k then 6 else if scan (nameE fs (metP ps k) ps[k].fs) ps[k].fs.length = 0 then (if bareB ps[k].x.d ps[k].m = true then 0 else fitsT (fts fs) ps[k].x 2) else scan (nameE fs (metP ps k) ps[k].fs) ps[k].fs.length)
     else LexB.nameE ps[k].nm.data.toList) else 0
def checkP (fs : List GenL.Fd) (ps : List PE) : Int := if ps.length = 0 ∨ 6 < ps.length then 1 else scan (pageE fs ps) ps.length
theorem metP_zero (ps : List PE) : metP ps 0 = [] := rfl
theorem metP_succ (ps : List PE) (k : Nat) (h : k < ps.length) : metP ps (k + 1) = metP ps k ++ ps[k].fs := by
  unfold metP
  rw [List.take_succ_eq_append_getElem h, List.map_append, List.flatten_append]
  simp
end Go.Proofs.Ytdlfhldboagbeaa.PgM
