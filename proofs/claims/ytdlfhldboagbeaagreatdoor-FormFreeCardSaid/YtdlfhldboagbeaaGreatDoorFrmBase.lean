/- Fields and pages, by their contents and as they lie in memory. -/
import Derived.Test.YtdlfhldboagbeaaGreatDoorGenLeaf
namespace Go.Proofs.YtdlfhldboagbeaaGreatDoor.FrmM
open Go.RowKit
open ValM LexM NumM ExM Kit ExL ExP RawV Within RawL GenL
set_option linter.unusedVariables false

/-- A field by its contents. -/
structure FV where
  nm : ByteArray
  kind : Int
  ty : Int
  x : Ex
def zeroN : Nd := ⟨0, 0, 0, ⟨#[]⟩, ⟨#[]⟩⟩
def zeroX : Ex := .mk zeroN []
/-- A page by its contents. -/
structure PV where
  nm : ByteArray
  fs : List ByteArray
  x : Ex
structure FE where
  nm : ByteArray
  kind : Int
  ty : Int
  x : Ex
  B : Option Addr
  m : Nat
  c : Nat
def FE.fd (e : FE) : GenL.Fd := ⟨e.nm, e.kind, e.ty, e.x.d, e.B, e.m, e.c⟩
def FE.v (e : FE) : FV := ⟨e.nm, e.kind, e.ty, e.x⟩
def fdC (f : GenL.Fd) : List Value := [.string f.nm, .int .i64 f.kind, .int .i64 f.ty, .int .i64 f.d.op, .int .i64 f.d.k, .int .i64 f.d.n, .string f.d.s, .string f.d.nm, .slice f.A f.n f.c]
def feC : List FE → List Value
  | [] => []
  | e :: l => fdC e.fd ++ feC l
theorem feC_app : ∀ (a b : List FE), feC (a ++ b) = feC a ++ feC b
  | [], b => rfl
  | e :: l, b => by show fdC e.fd ++ feC (l ++ b) = _; rw [feC_app l b, ← List.append_assoc]; rfl
theorem feC_snoc (es : List FE) (e : FE) : feC (es ++ [e]) = feC es ++ fdC e.fd := by
  rw [feC_app]; show _ ++ (fdC e.fd ++ []) = _; rw [List.append_nil]
theorem feC_len : ∀ (es : List FE), (feC es).length = es.length * 9
  | [] => rfl
  | e :: l => by show (fdC e.fd ++ feC l).length = _; rw [List.length_append, feC_len l]; simp [fdC]; omega
theorem feC_at : ∀ (es : List FE) (i j : Nat) (h : i < es.length), j < 9 → (feC es)[i * 9 + j]? = (fdC es[i].fd)[j]?
  | e :: l, 0, j, h, hj => by
    show (fdC e.fd ++ feC l)[0 * 9 + j]? = _
    rw [Nat.zero_mul, Nat.zero_add, List.getElem?_append_left (by simpa [fdC] using hj)]; rfl
  | e :: l, i + 1, j, h, hj => by
    show (fdC e.fd ++ feC l)[(i + 1) * 9 + j]? = _
    rw [List.getElem?_append_right (by simp [fdC]; omega), show (i + 1) * 9 + j - (fdC e.fd).length = i * 9 + j by simp [fdC]; omega, feC_at l i j (by simpa using h) hj]; rfl
theorem fdAt_of {w : World} {g o : Nat} {f : GenL.Fd} (h : ∀ j, j < 9 → w.cell? ⟨g, o + j, none⟩ = (fdC f)[j]?) : FdAt w ⟨g, o, none⟩ f :=
  ⟨h 0 (by decide), h 1 (by decide), h 2 (by decide), h 3 (by decide), h 4 (by decide), h 5 (by decide), h 6 (by decide), h 7 (by decide), h 8 (by decide)⟩
theorem flds_of {w : World} {g : Nat} {es : List FE} (hc : ∀ j, j < es.length * 9 → w.cell? ⟨g, j, none⟩ = (feC es)[j]?) : Flds w (some ⟨g, 0, none⟩) (es.map FE.fd) := fun i hi => by
  refine ⟨_, rfl, ?_⟩
  rw [add_block]
  have hi' : i < es.length := by simpa using hi
  rw [List.getElem_map]
  refine fdAt_of fun j hj => ?_
  rw [hc _ (by omega), feC_at es i j hi' hj]
theorem own_flds {w : World} {base k : Nat} {v : Value} {es : List FE} (h : w.ownsRow base 50 9 v k (feC es)) (hk : es.length = k) : ∃ A c, v = .slice A (es.map FE.fd).length c ∧ Flds w A (es.map FE.fd) := by
  subst hk
  rcases Nat.eq_zero_or_pos es.length with h0 | h0
  · obtain ⟨A, c, e⟩ := own_slice h
    exact ⟨A, c, by rw [e, List.length_map], fun i hi => absurd hi (by simp; omega)⟩
  · obtain ⟨g, cap, e, _, _, _, _, hc⟩ := own_form h h0
    exact ⟨_, cap, by rw [e, List.length_map], flds_of hc⟩
structure PE where
  nm : ByteArray
  fs : List ByteArray
  F : Option Addr
  fc : Nat
  x : Ex
  B : Option Addr
  m : Nat
  c : Nat
def PE.v (e : PE) : PV := ⟨e.nm, e.fs, e.x⟩
def pgC (e : PE) : List Value := [.string e.nm, .slice e.F e.fs.length e.fc, .int .i64 e.x.d.op, .int .i64 e.x.d.k, .int .i64 e.x.d.n, .string e.x.d.s, .string e.x.d.nm, .slice e.B e.m e.c]
def peC : List PE → List Value
  | [] => []
  | e :: l => pgC e ++ peC l
theorem peC_app : ∀ (a b : List PE), peC (a ++ b) = peC a ++ peC b
  | [], b => rfl
  | e :: l, b => by show pgC e ++ peC (l ++ b) = _; rw [peC_app l b, ← List.append_assoc]; rfl
theorem peC_snoc (es : List PE) (e : PE) : peC (es ++ [e]) = peC es ++ pgC e := by
  rw [peC_app]; show _ ++ (pgC e ++ []) = _; rw [List.append_nil]
theorem peC_len : ∀ (es : List PE), (peC es).length = es.length * 8
  | [] => rfl
  | e :: l => by show (pgC e ++ peC l).length = _; rw [List.length_append, peC_len l]; simp [pgC]; omega
theorem peC_at : ∀ (es : List PE) (i j : Nat) (h : i < es.length), j < 8 → (peC es)[i * 8 + j]? = (pgC es[i])[j]?
  | e :: l, 0, j, h, hj => by
    show (pgC e ++ peC l)[0 * 8 + j]? = _
    rw [Nat.zero_mul, Nat.zero_add, List.getElem?_append_left (by simpa [pgC] using hj)]; rfl
  | e :: l, i + 1, j, h, hj => by
    show (pgC e ++ peC l)[(i + 1) * 8 + j]? = _
    rw [List.getElem?_append_right (by simp [pgC]; omega), show (i + 1) * 8 + j - (pgC e).length = i * 8 + j by simp [pgC]; omega, peC_at l i j (by simpa using h) hj]; rfl
/-- A row of texts: in blocks of P. -/
def StrP (P : Nat → Prop) (w : World) (A : Option Addr) (l : List ByteArray) : Prop := ∀ (j : Nat) (h : j < l.length), ∃ a : Addr, A = some a ∧ P a.block ∧ w.cell? (a.add j) = some (.string l[j])
theorem StrP.keep {P Q : Nat → Prop} {w w' : World} {A : Option Addr} {l : List ByteArray} (h : StrP P w A l) (hk : ∀ b, P b → b < w.heap.size → w'.heap[b]? = w.heap[b]?) (hq : ∀ b, P b → b < w.heap.size → Q b) : StrP Q w' A l := fun j hj => by
  obtain ⟨a, e, hp, hc⟩ := h j hj
  have hl : a.block < w.heap.size := by have := cell_lt' hc; rwa [block_of_add] at this
  exact ⟨a, e, hq _ hp hl, (World.cell?_of_block (by rw [block_of_add]; exact hk _ hp hl)).trans hc⟩
structure PIs (P : Nat → Prop) (w : World) (e : PE) : Prop where
  str : StrP P w e.F e.fs
  skip : IsP P w e.x e.x.d e.B e.m
  len : e.fs.length ≤ 10
theorem PIs.keep {P Q : Nat → Prop} {w w' : World} {e : PE} (h : PIs P w e) (hk : ∀ b, P b → b < w.heap.size → w'.heap[b]? = w.heap[b]?) (hq : ∀ b, P b → b < w.heap.size → Q b) : PIs Q w' e :=
  ⟨h.str.keep hk hq, IsP.keep hk hq _ _ _ _ h.skip, h.len⟩
end Go.Proofs.YtdlfhldboagbeaaGreatDoor.FrmM
