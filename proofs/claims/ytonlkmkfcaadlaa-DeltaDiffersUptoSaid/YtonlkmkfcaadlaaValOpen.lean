/- An argument that is a slice of values. -/
import Derived.Test.YtonlkmkfcaadlaaFctOpen
import Derived.Test.YtonlkmkfcaadlaaVls
namespace Go.Proofs.Ytonlkmkfcaadlaa.ValO
open Go.ChangeShapes Go.WideShapes Go.ChangeAt Go.RowKit Go.Deep
open ExM ExL ExO EvM EvF FctO VlS
set_option linter.unusedVariables false

set_option maxRecDepth 100000 in
/-- A parameter that is a slice of values. -/
theorem open_vals {H : Type} {enc : TypeId × Value → H} {W : World} {base : Nat} {v : Value} {d : DataW H} {p : List MemPlace}
    (hv : Value.okWide Try.prog W .any base 23 v) (h : DataW.Trod enc Try.prog W 0 (fun _ => true) true 23 v d p) :
    ∃ (A : Option Addr) (fs : List Vl) (c : Nat), v = .slice A fs.length c ∧ Vls W A fs ∧ (fs.length ≤ Rows.uptoBulk d ∧ fs.length ≤ maxLen ∧ fs.length ≤ c ∧ c ≤ maxLen) ∧ (∀ f ∈ fs, f.s.size ≤ maxLen) := by
  obtain ⟨A, n, c, rfl⟩ := okWide_slice Try.underlying23 hv
  obtain ⟨fuel, hf⟩ := h
  have hC : Try.prog.cellsOf 31 = 3 := by kernel_rfl
  rcases open_slice Try.underlying23 hf with ⟨e, _⟩ | ⟨a, len, cap, m, f, D, Pl, e, _, hl, hc, hm, hx, hel⟩
  · have e' : [Value.slice A n c] = [.slice none 0 0] := e
    injection e' with e1 _
    injection e1 with e1 e2 e3
    subst e1 e2 e3
    exact ⟨none, [], 0, rfl, fun i hi => absurd hi (by simp), ⟨Nat.zero_le _, Nat.zero_le _, Nat.zero_le _, Nat.zero_le _⟩, fun f hf => absurd hf (by simp)⟩
  · have e' : [Value.slice A n c] = [.slice (some a) len cap] := e
    injection e' with e1 _
    injection e1 with e1 e2 e3
    subst e1 e2 e3
    have hx1 : d = .slice ((List.range n).map D) ((List.range (m - n)).map fun j => D (n + j)) := by injection hx
    have hlen : (List.range n).length = n := List.length_range
    have bulk_len : ∀ l : List (DataW H), l.length ≤ Rows.uptoBulkAll l := fun l => by
      induction l with
      | nil => simp
      | cons x l ih => simp only [Rows.uptoBulkAll, List.length_cons]; have := bulk_one x; omega
    have hb1 : Rows.uptoBulkAll ((List.range n).map D) ≤ Rows.uptoBulk d := by
      rw [hx1]; simp only [Rows.uptoBulk]; omega
    have hget : ∀ i, i < n → ∃ (f : Vl), VlAt W (a.add (i * 3)) f ∧ f.s.size ≤ maxLen := fun i hi => by
      have hmi : i < m := by rw [hm]; split <;> omega
      obtain ⟨cs', hcs, htr⟩ := hel i hmi
      rw [hC] at hcs
      obtain ⟨_, hcl, hat⟩ := World.cells?_some hcs
      obtain ⟨f, rfl, w0⟩ := row_val htr
      have hk : ∀ j, j ≠ 0 → (a.add (i * 3)).add j = ⟨(a.add (i * 3)).block, (a.add (i * 3)).off + j, none⟩ := fun j hj => addAdd' _ j j hj
      have h0 := hat 0 (by decide); have h1 := hat 1 (by decide); have h2 := hat 2 (by decide)
      rw [hk _ (by decide)] at h1 h2
      rw [show ∀ p : Addr, p.add 0 = p from fun p => by unfold Addr.add; rw [if_pos rfl]] at h0
      exact ⟨f, ⟨h0, h1, h2⟩, w0⟩
    obtain ⟨F, hF⟩ := Classical.axiomOfChoice (r := fun (i : Nat) (f : Vl) => i < n → VlAt W (a.add (i * 3)) f ∧ f.s.size ≤ maxLen) (fun i => by
      by_cases hi : i < n
      · obtain ⟨f, hf⟩ := hget i hi; exact ⟨f, fun _ => hf⟩
      · exact ⟨⟨0, 0, ⟨#[]⟩⟩, fun g => absurd g hi⟩)
    refine ⟨some a, (List.range n).map F, c, by rw [List.length_map, hlen], fun i hi => ⟨a, rfl, ?_⟩, ?_, fun f hf => ?_⟩
    · simp at hi ⊢; exact (hF i hi).1
    · rw [List.length_map, hlen]
      have := bulk_len ((List.range n).map D)
      rw [List.length_map, hlen] at this
      exact ⟨by omega, by omega, hl, hc⟩
    · obtain ⟨i, hi, rfl⟩ := List.mem_map.1 hf
      exact (hF i (List.mem_range.1 hi)).2
end Go.Proofs.Ytonlkmkfcaadlaa.ValO
