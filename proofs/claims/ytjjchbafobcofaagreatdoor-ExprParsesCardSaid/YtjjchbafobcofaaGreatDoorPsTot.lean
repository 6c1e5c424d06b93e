/- Plain mathematics: every reading comes to an end. No program is named here. -/
import Derived.Test.YtjjchbafobcofaaGreatDoorParsMath
namespace Go.Proofs.YtjjchbafobcofaaGreatDoor.PsTot
open LexM ExM PsM
/-- A formula that is read takes a token at least. -/
def Shape (b : Nat) (o : Out) : Prop := (∃ x r, o = .ok [x] r ∧ r.length < b) ∨ ∃ r, o = .bad r
def Done (ts : List Tk) : Prop := (∀ q, q ≤ 5 → ∃ o, Ev (.form q) ts o ∧ Shape ts.length o) ∧ (∀ q x, q ≤ 4 → ∃ o, Ev (.loop q x) ts o ∧ Shape (ts.length + 1) o) ∧
  (∀ n acc, ∃ o, Ev (.list n acc) ts o ∧ ((∃ l r, o = .ok l r ∧ r.length < ts.length) ∨ ∃ r, o = .bad r) ∧ (∀ r, acc.length + 1 = n → ∀ l, o = .ok l r → ∃ y, l = acc ++ [y]))
theorem tail_len {r : List Tk} {s : List UInt8} (h : isNext s r = true) : r.tail.length < r.length := by
  cases r with
  | nil => simp [isNext] at h
  | cons t r => simp
theorem wrap_shape {op b : Nat} {o : Out} (h : (∃ l r, o = .ok l r ∧ r.length < b) ∨ ∃ r, o = .bad r) : Shape b (wrap op o) := by
  rcases h with ⟨l, r, rfl, h⟩ | ⟨r, rfl⟩
  · exact .inl ⟨_, r, rfl, h⟩
  · exact .inr ⟨r, rfl⟩
theorem Shape.any {b : Nat} {o : Out} (h : Shape b o) : (∃ l r, o = .ok l r ∧ r.length < b) ∨ ∃ r, o = .bad r := by
  rcases h with ⟨x, r, h1, h2⟩ | h
  · exact .inl ⟨_, r, h1, h2⟩
  · exact .inr h
theorem Shape.mono {b b' : Nat} {o : Out} (h : Shape b o) (hb : b ≤ b') : Shape b' o := by
  rcases h with ⟨x, r, h1, h2⟩ | h
  · exact .inl ⟨x, r, h1, by omega⟩
  · exact .inr h
theorem done_all : ∀ (n : Nat) (ts : List Tk), ts.length ≤ n → Done ts := by
  intro n
  induction n using Nat.strongRecOn with
  | ind n ih =>
  intro ts hn
  have sh : ∀ us : List Tk, us.length < ts.length → Done us := fun us h => ih us.length (by omega) us (Nat.le_refl _)
  have h5 : ∃ o, Ev (.form 5) ts o ∧ Shape ts.length o := by
    cases ts with
    | nil => exact ⟨_, ev_end, .inr ⟨_, rfl⟩⟩
    | cons t r =>
      have hr := sh r (by simp)
      cases e5 : opAt 5 t.s with
      | some op =>
        obtain ⟨o, h1, h2⟩ := hr.1 5 (by omega)
        exact ⟨_, ev_prefix e5 h1, wrap_shape ((h2.mono (by simp)).any)⟩
      | none =>
        by_cases hp : t.s = [40]
        · obtain ⟨o, h1, h2, h3⟩ := hr.2.2 1 []
          refine ⟨o, ev_paren e5 hp h1, ?_⟩
          rcases h2 with ⟨l, r', rfl, h⟩ | h
          · obtain ⟨y, rfl⟩ := h3 r' rfl l rfl
            exact .inl ⟨y, r', rfl, by simp; omega⟩
          · exact .inr h
        · cases e6 : opAt 6 t.s with
          | some op =>
            cases hi : isNext [40] r with
            | false => exact ⟨_, ev_call_bad e5 hp e6 hi, .inr ⟨_, rfl⟩⟩
            | true =>
              have ht := tail_len hi
              obtain ⟨o, h1, h2, _⟩ := (sh r.tail (by simp at ht ⊢; omega)).2.2 (arity op) []
              refine ⟨_, ev_call e5 hp e6 hi h1, wrap_shape ?_⟩
              rcases h2 with ⟨l, r', h, g⟩ | h
              · exact .inl ⟨l, r', h, by simp at g ⊢; omega⟩
              · exact .inr h
          | none =>
            cases hl : leafN t with
            | some x => exact ⟨_, ev_leaf e5 hp e6 hl, .inl ⟨x, r, rfl, by simp⟩⟩
            | none => exact ⟨_, ev_leaf_bad e5 hp e6 hl, .inr ⟨_, rfl⟩⟩
  have hf : ∀ j q, q + j = 5 → ∃ o, Ev (.form q) ts o ∧ Shape ts.length o := by
    intro j
    induction j with
    | zero => intro q hq; obtain rfl : q = 5 := by omega
              exact h5
    | succ j ihj =>
      intro q hq
      obtain ⟨o, h1, h2⟩ := ihj (q + 1) (by omega)
      rcases h2 with ⟨x, r, rfl, h⟩ | ⟨r, rfl⟩
      · obtain ⟨o2, g1, g2⟩ := (sh r h).2.1 q x (by omega)
        exact ⟨o2, ev_form (by omega) h1 g1, g2.mono (by omega)⟩
      · exact ⟨_, ev_form_bad (by omega) h1, .inr ⟨r, rfl⟩⟩
  refine ⟨fun q hq => hf (5 - q) q (by omega), fun q x hq => ?_, fun m acc => ?_⟩
  · cases ts with
    | nil => exact ⟨_, ev_loop_end, .inl ⟨x, [], rfl, by simp⟩⟩
    | cons t r =>
      cases e : opAt q t.s with
      | none => exact ⟨_, ev_loop_none e, .inl ⟨x, _, rfl, by simp⟩⟩
      | some op =>
        obtain ⟨o, h1, h2⟩ := (sh r (by simp)).1 (q + 1) (by omega)
        rcases h2 with ⟨y, r', rfl, h⟩ | ⟨r', rfl⟩
        · by_cases h22 : q = 2
          · subst h22
            exact ⟨_, ev_loop_once e h1, .inl ⟨_, r', rfl, by simp; omega⟩⟩
          · obtain ⟨o2, g1, g2⟩ := (sh r' (by simp; omega)).2.1 q (opN op [x, y]) hq
            exact ⟨o2, ev_loop_more h22 e h1 g1, g2.mono (by simp; omega)⟩
        · exact ⟨_, ev_loop_bad e h1, .inr ⟨r', rfl⟩⟩
  · obtain ⟨o, h1, h2⟩ := hf 5 0 rfl
    rcases h2 with ⟨x, r, rfl, h⟩ | ⟨r, rfl⟩
    · by_cases hm : acc.length + 1 < m
      · cases hi : isNext [44] r with
        | false => exact ⟨_, ev_list_more_bad h1 hm hi, .inr ⟨r, rfl⟩, fun r' hacc l e => by cases e⟩
        | true =>
          have ht := tail_len hi
          obtain ⟨o2, g1, g2, _⟩ := (sh r.tail (by omega)).2.2 m (acc ++ [x])
          refine ⟨o2, ev_list_more h1 hm hi g1, ?_, fun r' hacc => by omega⟩
          rcases g2 with ⟨l, r', e, g⟩ | g
          · exact .inl ⟨l, r', e, by omega⟩
          · exact .inr g
      · cases hi : isNext [41] r with
        | false => exact ⟨_, ev_list_last_bad h1 hm hi, .inr ⟨r, rfl⟩, fun r' hacc l e => by cases e⟩
        | true =>
          have ht := tail_len hi
          refine ⟨_, ev_list_last h1 hm hi, .inl ⟨_, _, rfl, by omega⟩, fun r' hacc l e => ?_⟩
          simp only [Out.ok.injEq] at e
          exact ⟨x, e.1.symm⟩
    · exact ⟨_, ev_list_bad h1, .inr ⟨r, rfl⟩, fun r' hacc l e => by cases e⟩
/-- A formula of all operators: its reading. -/
theorem form_total (ts : List Tk) : ∃ o, Ev (.form 0) ts o ∧ Shape ts.length o := (done_all ts.length ts (Nat.le_refl _)).1 0 (by omega)
end Go.Proofs.YtjjchbafobcofaaGreatDoor.PsTot
