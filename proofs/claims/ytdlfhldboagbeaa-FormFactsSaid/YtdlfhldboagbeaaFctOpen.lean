/- An argument that is a slice of facts. -/
import Derived.Test.YtdlfhldboagbeaaExOpen
import Derived.Test.YtdlfhldboagbeaaFctBase
import Derived.Test.YtdlfhldboagbeaaRows
namespace Go.Proofs.Ytdlfhldboagbeaa.FctO
open Go.ChangeShapes Go.WideShapes Go.ChangeAt Go.RowKit Go.Deep
open ExM ExL ExO EvM EvF
set_option linter.unusedVariables false

theorem row_val {H : Type} {enc : TypeId × Value → H} {W : World} {fuel : Nat} {cs : List Value} {y : DataW H × List MemPlace}
    (h : DataW.trod enc Try.prog W 0 (fun _ => true) true fuel 35 cs = some y) : ∃ v : Vl, cs = [.int .i64 v.k, .int .i64 v.n, .string v.s] ∧ v.s.size ≤ maxLen := by
  obtain ⟨ys, f1, hfu, hx, hl, hlen, hf⟩ := DataW.trod_struct Try.underlying35 h
  have hC : Try.prog.cellsOf 35 = 3 := by kernel_rfl
  rw [hC] at hl
  obtain ⟨d0, d1, d2, rfl⟩ := len3 hl
  obtain ⟨y0, y1, y2, rfl⟩ := len3 (show ys.length = 3 from hlen)
  have g0 := hf 0 _ rfl
  have g1 := hf 1 _ rfl
  have g2 := hf 2 _ rfl
  have c0 : Try.prog.cellsOf 3 = 1 := by kernel_rfl
  have c2 : Try.prog.cellsOf 9 = 1 := by kernel_rfl
  simp [c0] at g0 g1
  simp [c2] at g2
  obtain ⟨k, q0, _, w0⟩ := DataW.trod_int Try.underlying3 g0
  obtain ⟨n, q1, _, w1⟩ := DataW.trod_int Try.underlying3 g1
  obtain ⟨s, q2, _, w2⟩ := DataW.trod_string Try.underlying9 g2
  simp only [List.cons.injEq, and_true] at q0 q1 q2
  subst q0 q1 q2
  exact ⟨⟨k, n, s⟩, rfl, w2⟩
set_option maxRecDepth 100000 in
theorem row_fct {H : Type} {enc : TypeId × Value → H} {W : World} {fuel : Nat} {cs : List Value} {y : DataW H × List MemPlace}
    (h : DataW.trod enc Try.prog W 0 (fun _ => true) true fuel 37 cs = some y) : ∃ f : Fc, cs = [.string f.nm, .int .i64 f.kk, .int .i64 f.kn, .string f.ks, .int .i64 f.v.k, .int .i64 f.v.n, .string f.v.s] ∧ f.nm.size ≤ maxLen := by
  obtain ⟨ys, f1, hfu, hx, hl, hlen, hf⟩ := DataW.trod_struct Try.underlying37 h
  have hC : Try.prog.cellsOf 37 = 7 := by kernel_rfl
  rw [hC] at hl
  obtain ⟨d0, d1, d2, d3, e0, e1, e2, rfl⟩ : ∃ a b c d e f g, cs = [a, b, c, d, e, f, g] := by
    match cs, hl with
    | [a, b, c, d, e, f, g], _ => exact ⟨a, b, c, d, e, f, g, rfl⟩
  obtain ⟨y0, y1, y2, rfl⟩ := len3 (show ys.length = 3 from hlen)
  have g0 := hf 0 _ rfl
  have g1 := hf 1 _ rfl
  have g2 := hf 2 _ rfl
  have c2 : Try.prog.cellsOf 9 = 1 := by kernel_rfl
  have c3 : Try.prog.cellsOf 35 = 3 := by kernel_rfl
  simp [c2] at g0
  simp [c3] at g1 g2
  obtain ⟨nm, q0, _, w0⟩ := DataW.trod_string Try.underlying9 g0
  obtain ⟨v1, q1, w1⟩ := row_val g1
  obtain ⟨v2, q2, w2⟩ := row_val g2
  simp only [List.cons.injEq, and_true] at q0 q1 q2
  obtain ⟨rfl, rfl, rfl⟩ := q1
  obtain ⟨rfl, rfl, rfl⟩ := q2
  subst q0
  exact ⟨⟨nm, v1.k, v1.n, v1.s, v2⟩, rfl, w0⟩
theorem addAdd' (p : Addr) (i j : Nat) (hi : i ≠ 0) : p.add i = ⟨p.block, p.off + i, none⟩ := by unfold Addr.add; rw [if_neg hi]
set_option maxRecDepth 100000 in
/-- A parameter that is a slice of facts. -/
theorem open_fcts {H : Type} {enc : TypeId × Value → H} {W : World} {base : Nat} {v : Value} {d : DataW H} {p : List MemPlace}
    (hv : Value.okWide Try.prog W .any base 26 v) (h : DataW.Trod enc Try.prog W 0 (fun _ => true) true 26 v d p) :
    ∃ (A : Option Addr) (fs : List Fc) (c : Nat), v = .slice A fs.length c ∧ Fcs W A fs ∧ (fs.length ≤ Rows.uptoBulk d ∧ fs.length ≤ maxLen ∧ fs.length ≤ c ∧ c ≤ maxLen) ∧ (∀ f ∈ fs, f.nm.size ≤ maxLen) := by
  obtain ⟨A, n, c, rfl⟩ := okWide_slice Try.underlying26 hv
  obtain ⟨fuel, hf⟩ := h
  have hC : Try.prog.cellsOf 37 = 7 := by kernel_rfl
  rcases open_slice Try.underlying26 hf with ⟨e, _⟩ | ⟨a, len, cap, m, f, D, Pl, e, _, hl, hc, hm, hx, hel⟩
  · have e' : [Value.slice A n c] = [.slice none 0 0] := e
    injection e' with e1 _
    injection e1 with e1 e2 e3
    subst e1 e2 e3
    exact ⟨none, [], 0, rfl, fun i hi => absurd hi (by simp), ⟨Nat.zero_le _, Nat.zero_le _, Nat.zero_le _, Nat.zero_le _⟩, fun f hf => absurd hf (by simp)⟩
  · have e' : [Value.slice A n c] = [.slice (some a) len cap] := e
    injection e' with e1 _
    injection e1 with e1 e2 e3
    subst e1 e2 e3
    have hx1 : d = .slice ((List.range n).map D) ((List.range (m - n)).map fun j => D (n + j)) := by injection hx
    have hlen : (List.range n).length = n := List.length_range
    have bulk_len : ∀ l : List (DataW H), l.length ≤ Rows.uptoBulkAll l := fun l => by
      induction l with
      | nil => simp
      | cons x l ih => simp only [Rows.uptoBulkAll, List.length_cons]; have := bulk_one x; omega
    have hb1 : Rows.uptoBulkAll ((List.range n).map D) ≤ Rows.uptoBulk d := by
      rw [hx1]; simp only [Rows.uptoBulk]; omega
    have hget : ∀ i, i < n → ∃ (f : Fc), FcAt W (a.add (i * 7)) f ∧ f.nm.size ≤ maxLen := fun i hi => by
      have hmi : i < m := by rw [hm]; split <;> omega
      obtain ⟨cs', hcs, htr⟩ := hel i hmi
      rw [hC] at hcs
      obtain ⟨_, hcl, hat⟩ := World.cells?_some hcs
      obtain ⟨f, rfl, w0⟩ := row_fct htr
      have hk : ∀ j, j ≠ 0 → (a.add (i * 7)).add j = ⟨(a.add (i * 7)).block, (a.add (i * 7)).off + j, none⟩ := fun j hj => addAdd' _ j j hj
      have h0 := hat 0 (by decide); have h1 := hat 1 (by decide); have h2 := hat 2 (by decide); have h3 := hat 3 (by decide); have h4 := hat 4 (by decide); have h5 := hat 5 (by decide); have h6 := hat 6 (by decide)
      rw [hk _ (by decide)] at h1 h2 h3 h4 h5 h6
      rw [show ∀ p : Addr, p.add 0 = p from fun p => by unfold Addr.add; rw [if_pos rfl]] at h0
      exact ⟨f, ⟨h0, h1, h2, h3, h4, h5, h6⟩, w0⟩
    obtain ⟨F, hF⟩ := Classical.axiomOfChoice (r := fun (i : Nat) (f : Fc) => i < n → FcAt W (a.add (i * 7)) f ∧ f.nm.size ≤ maxLen) (fun i => by
      by_cases hi : i < n
      · obtain ⟨f, hf⟩ := hget i hi; exact ⟨f, fun _ => hf⟩
      · exact ⟨⟨⟨#[]⟩, 0, 0, ⟨#[]⟩, ⟨0, 0, ⟨#[]⟩⟩⟩, fun g => absurd g hi⟩)
    refine ⟨some a, (List.range n).map F, c, by rw [List.length_map, hlen], fun i hi => ⟨a, rfl, ?_⟩, ?_, fun f hf => ?_⟩
    · simp at hi ⊢; exact (hF i hi).1
    · rw [List.length_map, hlen]
      have := bulk_len ((List.range n).map D)
      rw [List.length_map, hlen] at this
      exact ⟨by omega, by omega, hl, hc⟩
    · obtain ⟨i, hi, rfl⟩ := List.mem_map.1 hf
      exact (hF i (List.mem_range.1 hi)).2
end Go.Proofs.Ytdlfhldboagbeaa.FctO
