/- An argument that is a slice of fields. -/
import Derived.Test.YtonlkmkfcaadlaaExOpen
import Derived.Test.YtonlkmkfcaadlaaGenLeaf
import Derived.Test.YtonlkmkfcaadlaaRows
namespace Go.Proofs.Ytonlkmkfcaadlaa.FldO
open Go.ChangeShapes Go.WideShapes Go.ChangeAt Go.RowKit Go.Deep
open ExM ExL ExO GenL
set_option linter.unusedVariables false

set_option maxRecDepth 100000 in
theorem row_fld {H : Type} {enc : TypeId × Value → H} {W : World} {fuel : Nat} {cs : List Value} {y : DataW H × List MemPlace}
    (h : DataW.trod enc Try.prog W 0 (fun _ => true) true fuel 36 cs = some y) : ∃ (f : GenL.Fd) (x : Ex), cs = [.string f.nm, .int .i64 f.kind, .int .i64 f.ty, .int .i64 f.d.op, .int .i64 f.d.k, .int .i64 f.d.n, .string f.d.s, .string f.d.nm, .slice f.A f.n f.c] ∧ f.nm.size ≤ maxLen ∧ (Lit.int .i64 f.kind).wf = true ∧ (Lit.int .i64 f.ty).wf = true ∧ Is W x f.d f.A f.n ∧ x.nodes ≤ Rows.uptoBulk y.1 := by
  obtain ⟨ys, f1, hfu, hx, hl, hlen, hf⟩ := DataW.trod_struct Try.underlying36 h
  have hC : Try.prog.cellsOf 36 = 9 := by kernel_rfl
  rw [hC] at hl
  obtain ⟨d0, d1, d2, e0, e1, e2, e3, e4, e5, rfl⟩ : ∃ a b c d e f g h i, cs = [a, b, c, d, e, f, g, h, i] := by
    match cs, hl with
    | [a, b, c, d, e, f, g, h, i], _ => exact ⟨a, b, c, d, e, f, g, h, i, rfl⟩
  obtain ⟨y0, y1, y2, y3, rfl⟩ := len4 (show ys.length = 4 from hlen)
  have g0 := hf 0 _ rfl
  have g1 := hf 1 _ rfl
  have g2 := hf 2 _ rfl
  have g3 := hf 3 _ rfl
  have c0 : Try.prog.cellsOf 3 = 1 := by kernel_rfl
  have c2 : Try.prog.cellsOf 9 = 1 := by kernel_rfl
  have c3 : Try.prog.cellsOf 34 = 6 := by kernel_rfl
  simp [c0] at g1 g2
  simp [c2] at g0
  simp [c3] at g3
  obtain ⟨nm, q0, _, w0⟩ := DataW.trod_string Try.underlying9 g0
  obtain ⟨k, q1, _, w1⟩ := DataW.trod_int Try.underlying3 g1
  obtain ⟨ty, q2, _, w2⟩ := DataW.trod_int Try.underlying3 g2
  obtain ⟨x, d, A, n, c, q3, hi, hb⟩ := row_ex _ g3
  simp only [List.cons.injEq, and_true] at q0 q1 q2
  unfold exC at q3
  simp only [List.cons.injEq, and_true] at q3
  obtain ⟨rfl, rfl, rfl, rfl, rfl, rfl⟩ := q3
  subst q0 q1 q2
  refine ⟨⟨nm, k, ty, d, A, n, c⟩, x, rfl, w0, w1, w2, hi, ?_⟩
  subst hx
  simp only [List.map_cons, List.map_nil, Rows.uptoBulk, Rows.uptoBulkAll]
  omega
theorem addAdd (p : Addr) (i j : Nat) (hi : i ≠ 0) : p.add i = ⟨p.block, p.off + i, none⟩ := by unfold Addr.add; rw [if_neg hi]
set_option maxRecDepth 100000 in
/-- The same of any value that is read so. -/
theorem row_flds {H : Type} {enc : TypeId × Value → H} {W : World} {fuel : Nat} {v : Value} {d : DataW H} {p : List MemPlace}
    (hf : DataW.trod enc Try.prog W 0 (fun _ => true) true fuel 22 [v] = some (d, p)) :
    ∃ (A : Option Addr) (fs : List GenL.Fd) (c : Nat), v = .slice A fs.length c ∧ Flds W A fs ∧ (fs.length ≤ Rows.uptoBulk d ∧ fs.length ≤ maxLen ∧ fs.length ≤ c ∧ c ≤ maxLen) ∧ (∀ (i : Nat) (h : i < fs.length), fs[i].nm.size ≤ maxLen ∧ ∃ x, Is W x fs[i].d fs[i].A fs[i].n ∧ x.nodes ≤ Rows.uptoBulk d) := by
  have hC : Try.prog.cellsOf 36 = 9 := by kernel_rfl
  rcases open_slice Try.underlying22 hf with ⟨e, _⟩ | ⟨a, n, c, m, f, D, Pl, e, _, hl, hc, hm, hx, hel⟩
  · injection e with e _
    subst e
    exact ⟨none, [], 0, rfl, fun i hi => absurd hi (by simp), ⟨Nat.zero_le _, Nat.zero_le _, Nat.zero_le _, Nat.zero_le _⟩, fun i hi => absurd hi (by simp)⟩
  · injection e with e _
    subst e
    have hx1 : d = .slice ((List.range n).map D) ((List.range (m - n)).map fun j => D (n + j)) := by injection hx
    have hlen : (List.range n).length = n := List.length_range
    have bulk_len : ∀ l : List (DataW H), l.length ≤ Rows.uptoBulkAll l := fun l => by
      induction l with
      | nil => simp
      | cons x l ih => simp only [Rows.uptoBulkAll, List.length_cons]; have := bulk_one x; omega
    have bulk_at : ∀ (l : List (DataW H)) (i : Nat) (h : i < l.length), Rows.uptoBulk l[i] ≤ Rows.uptoBulkAll l := fun l => by
      induction l with
      | nil => intro i h; exact absurd h (by simp)
      | cons x l ih =>
        intro i h
        simp only [Rows.uptoBulkAll]
        match i, h with
        | 0, _ => simp
        | i + 1, h => have := ih i (by simpa using h); simp only [List.getElem_cons_succ]; omega
    have hb1 : Rows.uptoBulkAll ((List.range n).map D) ≤ Rows.uptoBulk d := by
      rw [hx1]; simp only [Rows.uptoBulk]; omega
    have hget : ∀ i, i < n → ∃ (f : GenL.Fd), FdAt W (a.add (i * 9)) f ∧ (f.nm.size ≤ maxLen ∧ ∃ x, Is W x f.d f.A f.n ∧ x.nodes ≤ Rows.uptoBulk d) := fun i hi => by
      have hmi : i < m := by rw [hm]; split <;> omega
      obtain ⟨cs', hcs, htr⟩ := hel i hmi
      rw [hC] at hcs
      obtain ⟨_, hcl, hat⟩ := World.cells?_some hcs
      obtain ⟨f, x, rfl, w0, w1, w2, hi2, hb⟩ := row_fld htr
      have hk : ∀ j, j ≠ 0 → (a.add (i * 9)).add j = ⟨(a.add (i * 9)).block, (a.add (i * 9)).off + j, none⟩ := fun j hj => addAdd _ j j hj
      have h0 := hat 0 (by decide); have h1 := hat 1 (by decide); have h2 := hat 2 (by decide); have h3 := hat 3 (by decide); have h4 := hat 4 (by decide); have h5 := hat 5 (by decide); have h6 := hat 6 (by decide); have h7 := hat 7 (by decide); have h8 := hat 8 (by decide)
      rw [hk _ (by decide)] at h1 h2 h3 h4 h5 h6 h7 h8
      rw [show ∀ p : Addr, p.add 0 = p from fun p => by unfold Addr.add; rw [if_pos rfl]] at h0
      have hbi := bulk_at ((List.range n).map D) i (by simpa using hi)
      simp only [List.getElem_map, List.getElem_range] at hbi
      have hb' : x.nodes ≤ Rows.uptoBulk (D i) := hb
      exact ⟨f, ⟨h0, h1, h2, h3, h4, h5, h6, h7, h8⟩, w0, x, hi2, by omega⟩
    obtain ⟨F, hF⟩ := Classical.axiomOfChoice (r := fun (i : Nat) (f : GenL.Fd) => i < n → FdAt W (a.add (i * 9)) f ∧ (f.nm.size ≤ maxLen ∧ ∃ x, Is W x f.d f.A f.n ∧ x.nodes ≤ Rows.uptoBulk d)) (fun i => by
      by_cases hi : i < n
      · obtain ⟨f, hf⟩ := hget i hi; exact ⟨f, fun _ => hf⟩
      · exact ⟨⟨⟨#[]⟩, 0, 0, ⟨0, 0, 0, ⟨#[]⟩, ⟨#[]⟩⟩, none, 0, 0⟩, fun g => absurd g hi⟩)
    refine ⟨some a, (List.range n).map F, c, by rw [List.length_map, hlen], fun i hi => ⟨a, rfl, ?_⟩, ?_, fun i hi => ?_⟩
    · simp at hi ⊢; exact (hF i hi).1
    · rw [List.length_map, hlen]
      have := bulk_len ((List.range n).map D)
      rw [List.length_map, hlen] at this
      exact ⟨by omega, by omega, hl, hc⟩
    · simp at hi ⊢; exact (hF i hi).2
set_option maxRecDepth 100000 in
/-- A parameter that is a slice of fields: the fields as they lie, and their formulas. -/
theorem open_flds {H : Type} {enc : TypeId × Value → H} {W : World} {base : Nat} {v : Value} {d : DataW H} {p : List MemPlace}
    (hv : Value.okWide Try.prog W .any base 22 v) (h : DataW.Trod enc Try.prog W 0 (fun _ => true) true 22 v d p) :
    ∃ (A : Option Addr) (fs : List GenL.Fd) (c : Nat), v = .slice A fs.length c ∧ Flds W A fs ∧ (fs.length ≤ Rows.uptoBulk d ∧ fs.length ≤ maxLen ∧ fs.length ≤ c ∧ c ≤ maxLen) ∧ (∀ (i : Nat) (h : i < fs.length), fs[i].nm.size ≤ maxLen ∧ ∃ x, Is W x fs[i].d fs[i].A fs[i].n ∧ x.nodes ≤ Rows.uptoBulk d) := by
  obtain ⟨A, n, c, rfl⟩ := okWide_slice Try.underlying22 hv
  obtain ⟨fuel, hf⟩ := h
  exact row_flds hf
set_option maxRecDepth 100000 in
/-- A parameter that is a field. -/
theorem open_fld {H : Type} {enc : TypeId × Value → H} {W : World} {base : Nat} {v : Value} {d : DataW H} {p : List MemPlace}
    (hv : Value.okWide Try.prog W .any base 36 v) (h : DataW.Trod enc Try.prog W 0 (fun _ => true) true 36 v d p) :
    ∃ (f : GenL.Fd) (x : Ex), v = .agg #[.string f.nm, .int .i64 f.kind, .int .i64 f.ty, .int .i64 f.d.op, .int .i64 f.d.k, .int .i64 f.d.n, .string f.d.s, .string f.d.nm, .slice f.A f.n f.c] ∧ f.nm.size ≤ maxLen ∧ Is W x f.d f.A f.n ∧ x.nodes ≤ Rows.uptoBulk d := by
  obtain ⟨cs, rfl, hsz⟩ := okWide_struct Try.underlying36 hv
  obtain ⟨fuel, hf⟩ := h
  obtain ⟨f, x, he, w0, _, _, hi, hb⟩ := row_fld hf
  have e' : cs.toList = _ := he
  obtain rfl : cs = #[.string f.nm, .int .i64 f.kind, .int .i64 f.ty, .int .i64 f.d.op, .int .i64 f.d.k, .int .i64 f.d.n, .string f.d.s, .string f.d.nm, .slice f.A f.n f.c] := by rw [← Array.toArray_toList (xs := cs), e']
  exact ⟨f, x, rfl, w0, hi, hb⟩
end Go.Proofs.Ytonlkmkfcaadlaa.FldO
