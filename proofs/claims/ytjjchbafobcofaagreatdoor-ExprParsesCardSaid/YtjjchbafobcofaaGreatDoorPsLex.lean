/- Plain mathematics: what a token of a text is, as the parser sees it; how 'true' and 'false' are shown. -/
import Derived.Test.YtjjchbafobcofaaGreatDoorParsMath
import Derived.Test.YtjjchbafobcofaaGreatDoorParseMath
namespace Go.Proofs.YtjjchbafobcofaaGreatDoor.PsLx
open LexM ExM PsM NumM ValM ShowM ParseM
set_option linter.unusedVariables false

/-- The kinds of a token. -/
def Kd (t : Tk) : Prop := t.kind = 1 ∨ t.kind = 3 ∨ t.kind = 2 ∨ (t.kind = 4 ∧ t.s ≠ trueB ∧ t.s ≠ falseB)
theorem head_facts {c : UInt8} {r : List UInt8} {T : Tok} (p : Nat) (h : firstF (c :: r) = .tok T) : (mk T p (c :: r)).s ≠ [] ∧ (mk T p (c :: r)).s.length ≤ (c :: r).length ∧ (mk T p (c :: r)).t.length ≤ (c :: r).length ∧ Kd (mk T p (c :: r)) := by
  have hl := first_len h
  obtain ⟨k, hk⟩ : ∃ k, T.len = k + 1 := ⟨T.len - 1, by omega⟩
  have hs : (mk T p (c :: r)).s = c :: r.take k := by show (c :: r).take T.len = _; rw [hk, List.take_succ_cons]
  have hsl : (mk T p (c :: r)).s.length ≤ (c :: r).length := by show ((c :: r).take T.len).length ≤ _; rw [List.length_take]; omega
  rw [hs] at hsl
  have hne : c :: r.take k ≠ [] := by simp
  rw [first_cons] at h
  split at h
  · obtain ⟨h1, h2, h3, h4⟩ := numT_tok h
    exact ⟨by rw [hs]; exact hne, by rw [hs]; exact hsl, by show T.t.length ≤ _; rw [h4]; simp, .inl h2⟩
  · split at h
    · obtain ⟨h1, _⟩ := wordT_tok h
      exact ⟨by rw [hs]; exact hne, by rw [hs]; exact hsl, by show T.t.length ≤ _; rw [h1]; simp, .inr (.inr (.inl (by show T.kind = 2; rw [h1])))⟩
    · rename_i hw
      split at h
      · obtain ⟨m, u, h1, h2, rfl⟩ := quoT_tok h
        have := quoF_len _ _ _ h1
        exact ⟨by rw [hs]; exact hne, by rw [hs]; exact hsl, by show u.length ≤ _; rw [List.length_cons]; omega, .inr (.inl rfl)⟩
      · have hT : T.kind = 4 ∧ T.t = [] := by
          unfold sgnT at h
          split at h
          · injection h with h; subst h; exact ⟨rfl, rfl⟩
          · split at h
            · injection h with h; subst h; exact ⟨rfl, rfl⟩
            · cases h
        refine ⟨by rw [hs]; exact hne, by rw [hs]; exact hsl, by show T.t.length ≤ _; rw [hT.2]; simp, .inr (.inr (.inr ⟨hT.1, ?_, ?_⟩))⟩
        · rw [hs]; intro e; injection e with e _; subst e; exact hw (by decide)
        · rw [hs]; intro e; injection e with e _; subst e; exact hw (by decide)
theorem tok_facts (l : List UInt8) (p : Nat) : ∀ ts, tokens l p = .ok ts → ∀ t ∈ ts, t.s ≠ [] ∧ t.s.length ≤ l.length ∧ t.t.length ≤ l.length ∧ Kd t := by
  refine tokens_ind (M := fun l p r => ∀ ts, r = .ok ts → ∀ t ∈ ts, t.s ≠ [] ∧ t.s.length ≤ l.length ∧ t.t.length ≤ l.length ∧ Kd t) ?_ ?_ ?_ ?_ l.length l p (Nat.le_refl _)
  · intro p ts h t ht; injection h with h; subst h; cases ht
  · intro r p ih ts h t ht
    obtain ⟨h1, h2, h3, h4⟩ := ih ts h t ht
    exact ⟨h1, by simp; omega, by simp; omega, h4⟩
  · intro c r p e _ _ ts h; cases h
  · intro c r p T hc hT ih ts h t ht
    cases hr : tokens ((c :: r).drop T.len) (p + T.len) with
    | bad q e => rw [hr] at h; cases h
    | ok us =>
      rw [hr] at h
      injection h with h; subst h
      rcases List.mem_cons.1 ht with rfl | ht
      · exact head_facts p hT
      · obtain ⟨h1, h2, h3, h4⟩ := ih us hr t ht
        have : ((c :: r).drop T.len).length ≤ (c :: r).length := by simp
        exact ⟨h1, by omega, by omega, h4⟩

theorem show_true : showL 2 1 [] = trueB := by rfl
theorem show_false : showL 2 0 [] = falseB := by rfl
theorem val_bool : valE 2 1 [] = 0 ∧ valE 2 0 [] = 0 ∧ numE 2 1 = 0 ∧ numE 2 0 = 0 ∧ strE 2 [] = 0 := by decide
end Go.Proofs.YtjjchbafobcofaaGreatDoor.PsLx
