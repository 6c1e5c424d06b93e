/- Plain mathematics for chapter 3: the tokens of a text. No program is named here. -/
import GoSem.Claim
import Derived.Lib.AtoiAll
namespace Go.Proofs.YtehkebncdahmcaaGreatDoor.LexM

def lowB (c : UInt8) : Bool := decide (97 ≤ c.toNat) && decide (c.toNat ≤ 122)
def digB (c : UInt8) : Bool := decide (48 ≤ c.toNat) && decide (c.toNat ≤ 57)
def alnB (c : UInt8) : Bool := lowB c || digB c
/-- A byte that is a sign by itself. -/
def sgnB (c : UInt8) : Bool := decide (c = 60) || decide (c = 61) || decide (c = 43) || decide (c = 45) || decide (c = 42) || decide (c = 47) || decide (c = 37) || decide (c = 38) || decide (c = 40) || decide (c = 41) || decide (c = 44)

/-- A first token: its kind, its length, its value's kind, number and text. -/
structure Tok where
  kind : Int
  len : Nat
  vk : Int
  n : Int
  t : List UInt8

inductive Fst where
  | bad (e : Int)
  | tok (t : Tok)

/-- A quote behind its first sign: how many bytes it has there, and its text. -/
def quoF : List UInt8 → Option (Nat × List UInt8)
  | [] => none
  | [c] => if c = 34 then some (1, []) else none
  | c :: d :: r =>
    if c = 34 then some (1, [])
    else if c.toNat < 32 ∨ 126 < c.toNat then none
    else if c = 92 then (if d = 34 ∨ d = 92 then (quoF r).map fun x => (x.1 + 2, d :: x.2) else none)
    else (quoF (d :: r)).map fun x => (x.1 + 1, c :: x.2)

def numT (d : List UInt8) : Fst :=
  if d.head? = some 48 ∧ 1 < d.length then .bad 3
  else match Lib.atoiAll d with
    | .ok n => if 1099511627776 < n then .bad 7 else .tok ⟨1, d.length, 1, n, []⟩
    | _ => .bad 7
def wordT (d : List UInt8) : Fst := if 10 < d.length then .bad 1 else .tok ⟨2, d.length, 0, 0, []⟩
def quoT (r : List UInt8) : Fst :=
  match quoF r with
  | none => .bad 3
  | some (m, t) => if 40 < t.length then .bad 1 else .tok ⟨3, m + 1, 3, 0, t⟩
def sgnT (c : UInt8) (r : List UInt8) : Fst :=
  if (c = 60 ∨ c = 33) ∧ r.head? = some 61 then .tok ⟨4, 2, 0, 0, []⟩ else if sgnB c then .tok ⟨4, 1, 0, 0, []⟩ else .bad 3
def firstF : List UInt8 → Fst
  | [] => .bad 3
  | c :: r =>
    if digB c then numT ((c :: r).takeWhile digB)
    else if lowB c then wordT ((c :: r).takeWhile alnB)
    else if c = 34 then quoT r
    else sgnT c r

theorem first_cons (c : UInt8) (r : List UInt8) : firstF (c :: r) = if digB c then numT ((c :: r).takeWhile digB) else if lowB c then wordT ((c :: r).takeWhile alnB) else if c = 34 then quoT r else sgnT c r := rfl

structure Tk where
  kind : Int
  pos : Nat
  s : List UInt8
  vk : Int
  n : Int
  t : List UInt8

inductive Res where
  | bad (pos : Nat) (e : Int)
  | ok (l : List Tk)
def Res.cons (x : Tk) : Res → Res
  | .bad p e => .bad p e
  | .ok l => .ok (x :: l)
def mk (t : Tok) (pos : Nat) (l : List UInt8) : Tk := ⟨t.kind, pos, l.take t.len, t.vk, t.n, t.t⟩

def toks : Nat → List UInt8 → Nat → Res
  | 0, _, _ => .ok []
  | _ + 1, [], _ => .ok []
  | f + 1, c :: r, p =>
    if c = 32 then toks f r (p + 1)
    else match firstF (c :: r) with
      | .bad e => .bad p e
      | .tok t => (toks f ((c :: r).drop t.len) (p + t.len)).cons (mk t p (c :: r))

/-- What is handed back: the tokens, the offset, the error. -/
def fin (acc : List Tk) : Res → List Tk × Nat × Int
  | .bad p e => ([], p, e)
  | .ok l => (acc ++ l, 0, 0)
def lexR (l : List UInt8) : List Tk × Nat × Int := if 160 < l.length then ([], 0, 1) else fin [] (toks (l.length + 1) l 0)

theorem fin_cons (acc : List Tk) (x : Tk) (r : Res) : fin acc (r.cons x) = fin (acc ++ [x]) r := by
  cases r <;> simp [fin, Res.cons]

/-! ### Lengths -/
theorem tw_len (p : UInt8 → Bool) : ∀ l : List UInt8, (l.takeWhile p).length ≤ l.length
  | [] => by simp
  | c :: l => by
    rw [List.takeWhile_cons]
    split
    · have := tw_len p l; simp; omega
    · simp
theorem quoF_len : ∀ (l : List UInt8) (m : Nat) (t : List UInt8), quoF l = some (m, t) → 1 ≤ m ∧ m ≤ l.length ∧ t.length < m
  | [], m, t, h => by simp [quoF] at h
  | [c], m, t, h => by
    unfold quoF at h
    split at h
    · simp only [Option.some.injEq, Prod.mk.injEq] at h; obtain ⟨rfl, rfl⟩ := h; simp
    · cases h
  | c :: d :: r, m, t, h => by
    unfold quoF at h
    split at h
    · simp only [Option.some.injEq, Prod.mk.injEq] at h; obtain ⟨rfl, rfl⟩ := h; simp
    · split at h
      · cases h
      · split at h
        · split at h
          · obtain ⟨⟨m', t'⟩, h', hx⟩ := Option.map_eq_some_iff.1 h
            simp only [Prod.mk.injEq] at hx; obtain ⟨rfl, rfl⟩ := hx
            have := quoF_len r m' t' h'
            simp only [List.length_cons]; omega
          · cases h
        · obtain ⟨⟨m', t'⟩, h', hx⟩ := Option.map_eq_some_iff.1 h
          simp only [Prod.mk.injEq] at hx; obtain ⟨rfl, rfl⟩ := hx
          have := quoF_len (d :: r) m' t' h'
          simp only [List.length_cons] at this ⊢; omega

theorem numT_tok {d : List UInt8} {t : Tok} (h : numT d = .tok t) : t.len = d.length ∧ t.kind = 1 ∧ t.vk = 1 ∧ t.t = [] := by
  unfold numT at h
  split at h
  · cases h
  · split at h
    · split at h
      · cases h
      · injection h with h; subst h; simp
    · cases h
theorem wordT_tok {d : List UInt8} {t : Tok} (h : wordT d = .tok t) : t = ⟨2, d.length, 0, 0, []⟩ ∧ d.length ≤ 10 := by
  unfold wordT at h
  split at h
  · cases h
  · injection h with h; exact ⟨h.symm, by omega⟩
theorem quoT_tok {r : List UInt8} {t : Tok} (h : quoT r = .tok t) : ∃ m u, quoF r = some (m, u) ∧ u.length ≤ 40 ∧ t = ⟨3, m + 1, 3, 0, u⟩ := by
  unfold quoT at h
  split at h
  · cases h
  · rename_i m u hq
    split at h
    · cases h
    · injection h with h; exact ⟨m, u, hq, by omega, h.symm⟩

theorem first_len {l : List UInt8} {t : Tok} (h : firstF l = .tok t) : 1 ≤ t.len ∧ t.len ≤ l.length := by
  cases l with
  | nil => cases h
  | cons c r =>
    rw [first_cons] at h
    split at h
    · rename_i hd
      obtain ⟨h1, _⟩ := numT_tok h
      have h2 := tw_len digB (c :: r)
      rw [h1]; refine ⟨?_, h2⟩
      rw [List.takeWhile_cons, if_pos hd]; simp
    · split at h
      · rename_i hd
        obtain ⟨rfl, _⟩ := wordT_tok h
        have h2 := tw_len alnB (c :: r)
        refine ⟨?_, h2⟩
        show 1 ≤ ((c :: r).takeWhile alnB).length
        rw [List.takeWhile_cons, if_pos (by simp [alnB, hd])]; simp
      · split at h
        · obtain ⟨m, u, hq, _, rfl⟩ := quoT_tok h
          have := quoF_len r m u hq
          simp; omega
        · unfold sgnT at h
          split at h
          · rename_i hh
            injection h with h; subst h
            cases r with
            | nil => simp at hh
            | cons d r => simp
          · split at h
            · injection h with h; subst h; simp
            · cases h

/-! ### A first token stays the first one if the text is cut behind it -/
theorem tw_cut (p : UInt8 → Bool) : ∀ (l r : List UInt8), (r = [] ∨ (∃ c, r.head? = some c ∧ p c = false) ∨ r.head? = (l.drop (l.takeWhile p).length).head?) →
    (l.take (l.takeWhile p).length ++ r).takeWhile p = l.takeWhile p
  | [], r, h => by
    cases r with
    | nil => rfl
    | cons d r =>
      rcases h with h | ⟨c, h, hp⟩ | h
      · cases h
      · simp at h; subst h; simp [hp]
      · simp at h
  | c :: l, r, h => by
    rw [List.takeWhile_cons] at h ⊢
    by_cases hc : p c = true
    · rw [if_pos hc] at h ⊢
      simp only [List.length_cons, List.take_succ_cons, List.cons_append, List.drop_succ_cons] at h ⊢
      rw [List.takeWhile_cons, if_pos hc, tw_cut p l r h]
    · rw [if_neg hc] at h ⊢
      cases r with
      | nil => rfl
      | cons d r =>
        have hd : p d = false := by
          rcases h with h | ⟨c', h, hp⟩ | h
          · cases h
          · simp at h; subst h; exact hp
          · simp at h; subst h; simpa using hc
        simp [hd]

theorem quoF_cut : ∀ (l r : List UInt8) (m : Nat) (t : List UInt8), quoF l = some (m, t) → quoF (l.take m ++ r) = some (m, t)
  | [], _, m, t, h => by simp [quoF] at h
  | [c], r, m, t, h => by
    unfold quoF at h
    split at h
    · rename_i hc
      simp only [Option.some.injEq, Prod.mk.injEq] at h; obtain ⟨rfl, rfl⟩ := h
      subst hc
      cases r <;> simp [quoF]
    · cases h
  | c :: d :: r', r, m, t, h => by
    unfold quoF at h
    split at h
    · rename_i hc
      simp only [Option.some.injEq, Prod.mk.injEq] at h; obtain ⟨rfl, rfl⟩ := h
      subst hc
      cases r <;> simp [quoF]
    · rename_i h34
      split at h
      · cases h
      · rename_i hr
        split at h
        · rename_i h92
          split at h
          · rename_i hd
            obtain ⟨⟨m', t'⟩, h', hx⟩ := Option.map_eq_some_iff.1 h
            simp only [Prod.mk.injEq] at hx; obtain ⟨rfl, rfl⟩ := hx
            have ih := quoF_cut r' r m' t' h'
            show quoF ((c :: d :: r').take (m' + 2) ++ r) = _
            rw [List.take_succ_cons, List.take_succ_cons, List.cons_append, List.cons_append, quoF, if_neg h34, if_neg hr, if_pos h92, if_pos hd, ih]
            rfl
          · cases h
        · rename_i h92
          obtain ⟨⟨m', t'⟩, h', hx⟩ := Option.map_eq_some_iff.1 h
          simp only [Prod.mk.injEq] at hx; obtain ⟨rfl, rfl⟩ := hx
          have ih := quoF_cut (d :: r') r m' t' h'
          have hm := (quoF_len _ _ _ h').1
          obtain ⟨k, rfl⟩ : ∃ k, m' = k + 1 := ⟨m' - 1, by omega⟩
          show quoF ((c :: d :: r').take (k + 1 + 1) ++ r) = _
          rw [List.take_succ_cons, List.take_succ_cons, List.cons_append, List.cons_append, quoF, if_neg h34, if_neg hr, if_neg h92]
          rw [List.take_succ_cons, List.cons_append] at ih
          rw [ih]; rfl

theorem first_cut {l : List UInt8} {t : Tok} (r : List UInt8) (h : firstF l = .tok t) (hr : r = [] ∨ r.head? = some 32 ∨ r.head? = (l.drop t.len).head?) : firstF (l.take t.len ++ r) = .tok t := by
  have hl := first_len h
  cases l with
  | nil => cases h
  | cons c l =>
    obtain ⟨k, hk⟩ : ∃ k, t.len = k + 1 := ⟨t.len - 1, by omega⟩
    rw [first_cons] at h
    have e0 : (c :: l).take t.len ++ r = c :: (l.take k ++ r) := by rw [hk, List.take_succ_cons, List.cons_append]
    split at h
    · rename_i hd
      obtain ⟨h1, _⟩ := numT_tok h
      rw [e0]; rw [first_cons]; rw [if_pos hd, ← e0, h1]
      rw [tw_cut digB (c :: l) r, h]
      rcases hr with hr | hr | hr
      · exact .inl hr
      · exact .inr (.inl ⟨32, hr, by decide⟩)
      · exact .inr (.inr (by rw [← h1]; exact hr))
    · rename_i hd
      split at h
      · rename_i hw
        obtain ⟨h1, _⟩ := wordT_tok h
        have h2 : t.len = ((c :: l).takeWhile alnB).length := by rw [h1]
        rw [e0]; rw [first_cons]; rw [if_neg hd, if_pos hw, ← e0, h2]
        rw [tw_cut alnB (c :: l) r, h]
        rcases hr with hr | hr | hr
        · exact .inl hr
        · exact .inr (.inl ⟨32, hr, by decide⟩)
        · exact .inr (.inr (by rw [← h2]; exact hr))
      · rename_i hw
        split at h
        · rename_i hq
          obtain ⟨m, u, h1, h2, rfl⟩ := quoT_tok h
          obtain rfl : m = k := by simp at hk; exact hk
          rw [e0]; rw [first_cons]; rw [if_neg hd, if_neg hw, if_pos hq]
          unfold quoT
          rw [quoF_cut l r _ _ h1]
          simp; omega
        · rename_i hq
          unfold sgnT at h
          split at h
          · rename_i h2
            injection h with h; subst h
            obtain rfl : 1 = k := by simp at hk; exact hk.symm
            rw [e0]; rw [first_cons]; rw [if_neg hd, if_neg hw, if_neg hq]
            unfold sgnT
            have e1 : (l.take 1 ++ r).head? = some 61 := by
              cases l with
              | nil => simp at h2
              | cons d l => simpa using h2.2
            rw [if_pos ⟨h2.1, e1⟩]
          · rename_i h2
            split at h
            · rename_i h3
              injection h with h; subst h
              obtain rfl : 0 = k := by simp at hk; exact hk.symm
              rw [e0]; rw [first_cons]; rw [if_neg hd, if_neg hw, if_neg hq]
              unfold sgnT
              rw [if_neg, if_pos h3]
              rintro ⟨g1, g2⟩
              refine h2 ⟨g1, ?_⟩
              simp at g2
              rcases hr with hr | hr | hr
              · subst hr; simp at g2
              · rw [hr] at g2; simp at g2
              · rw [hr] at g2; simpa using g2
            · cases h

/-! ### Fuel -/
theorem toks_fuel : ∀ (f g : Nat) (l : List UInt8) (p : Nat), l.length < f → l.length < g → toks f l p = toks g l p
  | 0, _, _, _, h, _ => absurd h (by omega)
  | _ + 1, 0, _, _, _, h => absurd h (by omega)
  | f + 1, g + 1, [], p, _, _ => by simp [toks]
  | f + 1, g + 1, c :: r, p, hf, hg => by
    simp only [List.length_cons] at hf hg
    unfold toks
    split
    · exact toks_fuel f g r (p + 1) (by omega) (by omega)
    · split
      · rfl
      · rename_i t ht
        have := first_len ht
        simp only [List.length_cons] at this
        rw [toks_fuel f g _ _ (by simp; omega) (by simp; omega)]

/-- The tokens of a text that stands at an offset. -/
def tokens (l : List UInt8) (p : Nat) : Res := toks (l.length + 1) l p
theorem tokens_nil (p : Nat) : tokens [] p = .ok [] := rfl
theorem tokens_space (r : List UInt8) (p : Nat) : tokens (32 :: r) p = tokens r (p + 1) := by
  unfold tokens; rw [List.length_cons, toks, if_pos rfl]
theorem tokens_bad {c : UInt8} {r : List UInt8} {p : Nat} {e : Int} (hc : c ≠ 32) (h : firstF (c :: r) = .bad e) : tokens (c :: r) p = .bad p e := by
  unfold tokens; rw [List.length_cons, toks, if_neg hc, h]
theorem tokens_tok {c : UInt8} {r : List UInt8} {p : Nat} {t : Tok} (hc : c ≠ 32) (h : firstF (c :: r) = .tok t) : tokens (c :: r) p = (tokens ((c :: r).drop t.len) (p + t.len)).cons (mk t p (c :: r)) := by
  have := first_len h
  simp only [List.length_cons] at this
  unfold tokens; rw [List.length_cons, toks, if_neg hc, h]
  simp only
  rw [toks_fuel (r.length + 1) (((c :: r).drop t.len).length + 1) _ _ (by simp; omega) (by omega)]
theorem lexR_of {l : List UInt8} (h : l.length ≤ 160) : lexR l = fin [] (tokens l 0) := by unfold lexR tokens; rw [if_neg (by omega)]
theorem lexR_long {l : List UInt8} (h : 160 < l.length) : lexR l = ([], 0, 1) := by unfold lexR; rw [if_pos h]

/-- Induction over the text of tokens. -/
theorem tokens_ind {M : List UInt8 → Nat → Res → Prop} (h0 : ∀ p, M [] p (.ok [])) (h1 : ∀ r p, M r (p + 1) (tokens r (p + 1)) → M (32 :: r) p (tokens r (p + 1)))
    (h2 : ∀ c r p e, c ≠ 32 → firstF (c :: r) = .bad e → M (c :: r) p (.bad p e))
    (h3 : ∀ c r p t, c ≠ 32 → firstF (c :: r) = .tok t → M ((c :: r).drop t.len) (p + t.len) (tokens ((c :: r).drop t.len) (p + t.len)) → M (c :: r) p ((tokens ((c :: r).drop t.len) (p + t.len)).cons (mk t p (c :: r)))) :
    ∀ (n : Nat) (l : List UInt8) (p : Nat), l.length ≤ n → M l p (tokens l p)
  | _, [], p, _ => h0 p
  | 0, c :: r, _, h => absurd h (by simp)
  | n + 1, c :: r, p, h => by
    simp only [List.length_cons] at h
    by_cases hc : c = 32
    · subst hc
      rw [tokens_space]
      exact h1 r p (tokens_ind h0 h1 h2 h3 n r (p + 1) (by omega))
    · cases ht : firstF (c :: r) with
      | bad e => rw [tokens_bad hc ht]; exact h2 c r p e hc ht
      | tok t =>
        rw [tokens_tok hc ht]
        have := first_len ht
        simp only [List.length_cons] at this
        exact h3 c r p t hc ht (tokens_ind h0 h1 h2 h3 n _ _ (by simp; omega))

/-! ### Properties -/
theorem few (l : List UInt8) (p : Nat) : ∀ ts, tokens l p = .ok ts → ts.length ≤ l.length := by
  refine tokens_ind (M := fun l _ r => ∀ ts, r = .ok ts → ts.length ≤ l.length) ?_ ?_ ?_ ?_ l.length l p (Nat.le_refl _)
  · intro p ts h; injection h with h; subst h; simp
  · intro r p ih ts h; have := ih ts h; simp; omega
  · intro c r p e _ _ ts h; cases h
  · intro c r p t hc ht ih ts h
    have hl := first_len ht
    cases hr : tokens ((c :: r).drop t.len) (p + t.len) with
    | bad q e => rw [hr] at h; cases h
    | ok us =>
      rw [hr] at h; injection h with h; subst h
      have := ih us hr
      simp only [List.length_cons, List.length_drop] at this hl ⊢
      omega

theorem cut_tok {c : UInt8} {r : List UInt8} {p : Nat} {t : Tok} (hc : c ≠ 32) (ht : firstF (c :: r) = .tok t) (u : List UInt8) (hu : u = [] ∨ u.head? = some 32 ∨ u.head? = ((c :: r).drop t.len).head?) :
    tokens ((c :: r).take t.len ++ u) p = (tokens u (p + t.len)).cons (mk t p (c :: r)) := by
  have hl := first_len ht
  simp only [List.length_cons] at hl
  have hc1 := first_cut u ht hu
  obtain ⟨j, hj⟩ : ∃ j, t.len = j + 1 := ⟨t.len - 1, by omega⟩
  have e2 : (c :: r).take t.len ++ u = c :: (r.take j ++ u) := by rw [hj, List.take_succ_cons, List.cons_append]
  have e3 : ((c :: r).take t.len).length = t.len := by rw [List.length_take, List.length_cons]; omega
  rw [e2, tokens_tok hc (by rw [← e2]; exact hc1), ← e2, List.drop_append_of_le_length (by omega), List.drop_eq_nil_of_le (by omega), List.nil_append]
  congr 1
  unfold mk
  rw [List.take_append_of_le_length (by omega), List.take_of_length_le (by omega)]

theorem wrong (l : List UInt8) (p : Nat) : ∀ q e, tokens l p = .bad q e → p ≤ q ∧ q < p + l.length ∧ (e = 1 ∨ e = 3 ∨ e = 7) ∧ ∃ ts, tokens (l.take (q - p)) p = .ok ts := by
  refine tokens_ind (M := fun l p r => ∀ q e, r = .bad q e → p ≤ q ∧ q < p + l.length ∧ (e = 1 ∨ e = 3 ∨ e = 7) ∧ ∃ ts, tokens (l.take (q - p)) p = .ok ts) ?_ ?_ ?_ ?_ l.length l p (Nat.le_refl _)
  · intro p q e h; cases h
  · intro r p ih q e h
    obtain ⟨h1, h2, h4, ts, h3⟩ := ih q e h
    refine ⟨by omega, by simp; omega, h4, ts, ?_⟩
    obtain ⟨k, rfl⟩ : ∃ k, q = p + 1 + k := ⟨q - (p + 1), by omega⟩
    rw [show p + 1 + k - p = k + 1 by omega, List.take_succ_cons, tokens_space]
    rw [show p + 1 + k - (p + 1) = k by omega] at h3
    exact h3
  · intro c r p e hc hb q e' h
    injection h with h h'
    subst h; subst h'
    refine ⟨Nat.le_refl _, by simp, ?_, [], by rw [Nat.sub_self]; rfl⟩
    rw [first_cons] at hb
    unfold numT wordT quoT sgnT at hb
    repeat' split at hb
    all_goals (first | (injection hb with hb; omega) | cases hb)
  · intro c r p t hc ht ih q e h
    have hl := first_len ht
    cases hr : tokens ((c :: r).drop t.len) (p + t.len) with
    | ok us => rw [hr] at h; cases h
    | bad q' e' =>
      rw [hr] at h
      injection h with h h'
      subst h; subst h'
      obtain ⟨h1, h2, h4, ts, h3⟩ := ih q' e' hr
      simp only [List.length_cons, List.length_drop] at h2 hl
      refine ⟨by omega, by simp; omega, h4, mk t p (c :: r) :: ts, ?_⟩
      obtain ⟨k, rfl⟩ : ∃ k, q' = p + t.len + k := ⟨q' - (p + t.len), by omega⟩
      have e1 : (c :: r).take (p + t.len + k - p) = (c :: r).take t.len ++ ((c :: r).drop t.len).take k := by
        rw [show p + t.len + k - p = t.len + k by omega, List.take_add]
      rw [show p + t.len + k - (p + t.len) = k by omega] at h3
      have hc1 := cut_tok (p := p) hc ht (((c :: r).drop t.len).take k) (by
        cases k with
        | zero => exact .inl (by simp)
        | succ k =>
          refine .inr (.inr ?_)
          cases (c :: r).drop t.len <;> simp)
      rw [e1, hc1, h3]; rfl

/-- A token without its offset. -/
def Tk.bare (x : Tk) : Int × List UInt8 × Int × Int × List UInt8 := (x.kind, x.s, x.vk, x.n, x.t)
def joined : List (List UInt8) → List UInt8
  | [] => []
  | [s] => s
  | s :: t :: r => s ++ 32 :: joined (t :: r)

theorem apart (l : List UInt8) (p : Nat) : ∀ ts, tokens l p = .ok ts → ∀ q, ∃ us, tokens (joined (ts.map Tk.s)) q = .ok us ∧ us.map Tk.bare = ts.map Tk.bare := by
  refine tokens_ind (M := fun l p r => ∀ ts, r = .ok ts → ∀ q, ∃ us, tokens (joined (ts.map Tk.s)) q = .ok us ∧ us.map Tk.bare = ts.map Tk.bare) ?_ ?_ ?_ ?_ l.length l p (Nat.le_refl _)
  · intro p ts h q; injection h with h; subst h; exact ⟨[], rfl, rfl⟩
  · intro r p ih ts h q; exact ih ts h q
  · intro c r p e _ _ ts h; cases h
  · intro c r p t hc ht ih ts h q
    cases hr : tokens ((c :: r).drop t.len) (p + t.len) with
    | bad q e => rw [hr] at h; cases h
    | ok ws =>
      rw [hr] at h; injection h with h; subst h
      cases ws with
      | nil =>
        refine ⟨[mk t q (c :: r)], ?_, rfl⟩
        have := cut_tok (p := q) hc ht [] (.inl rfl)
        rw [List.append_nil] at this
        show tokens ((c :: r).take t.len) q = _
        rw [this]; rfl
      | cons x ws =>
        obtain ⟨us, h1, h2⟩ := ih (x :: ws) hr (q + t.len + 1)
        refine ⟨mk t q (c :: r) :: us, ?_, ?_⟩
        · have := cut_tok (p := q) hc ht (32 :: joined ((x :: ws).map Tk.s)) (.inr (.inl rfl))
          rw [tokens_space, h1] at this
          show tokens ((c :: r).take t.len ++ 32 :: joined ((x :: ws).map Tk.s)) q = _
          rw [this]; rfl
        · rw [List.map_cons, List.map_cons, h2]; rfl

/-! ### Names -/
def nameB (l : List UInt8) : Bool := match l with | [] => false | c :: r => lowB c && r.all alnB
theorem tw_all (p : UInt8 → Bool) : ∀ l : List UInt8, l.all p = true → l.takeWhile p = l
  | [], _ => rfl
  | c :: l, h => by
    rw [List.all_cons, Bool.and_eq_true] at h
    rw [List.takeWhile_cons, if_pos h.1, tw_all p l h.2]
theorem name_tok {l : List UInt8} (h : nameB l = true) (hl : l.length ≤ 10) (p : Nat) : tokens l p = .ok [⟨2, p, l, 0, 0, []⟩] := by
  cases l with
  | nil => cases h
  | cons c r =>
    unfold nameB at h
    simp only [Bool.and_eq_true] at h
    obtain ⟨h1, h2⟩ := h
    have hd : digB c = false := by
      unfold lowB at h1; unfold digB
      simp only [Bool.and_eq_true, decide_eq_true_eq, Bool.and_eq_false_iff, decide_eq_false_iff_not] at h1 ⊢
      omega
    have hc : c ≠ 32 := fun e => by subst e; exact absurd h1 (by decide)
    have htw : (c :: r).takeWhile alnB = c :: r := tw_all alnB _ (by rw [List.all_cons, h2]; simp [alnB, h1])
    have hf : firstF (c :: r) = .tok ⟨2, (c :: r).length, 0, 0, []⟩ := by
      rw [first_cons]
      rw [if_neg (by simp [hd]), if_pos h1, htw]
      unfold wordT
      rw [if_neg (by omega)]
    rw [tokens_tok hc hf]
    show (tokens ((c :: r).drop (c :: r).length) _).cons (mk _ p (c :: r)) = _
    rw [List.drop_length, tokens_nil]
    show Res.ok [mk _ p (c :: r)] = _
    unfold mk
    simp

/-! ### Where the tokens stand -/
theorem covers (l : List UInt8) (p : Nat) (hp : p ≤ l.length) : ∀ ts, tokens (l.drop p) p = .ok ts →
    (ts = [] → (l.drop p).all (· == 32) = true) ∧
    (∀ x us, ts = x :: us → p ≤ x.pos ∧ x.s ≠ [] ∧ x.pos + x.s.length ≤ l.length ∧ (l.drop x.pos).take x.s.length = x.s ∧ ((l.drop p).take (x.pos - p)).all (· == 32) = true ∧ tokens (l.drop (x.pos + x.s.length)) (x.pos + x.s.length) = .ok us) := by
  obtain ⟨k, hk⟩ : ∃ k, l.length - p = k := ⟨_, rfl⟩
  induction k generalizing p with
  | zero =>
    intro ts h
    have e : l.drop p = [] := List.drop_eq_nil_of_le (by omega)
    rw [e] at h ⊢
    injection h with h; subst h
    exact ⟨fun _ => rfl, fun x us hx => by cases hx⟩
  | succ k ih =>
    intro ts h
    have hlt : p < l.length := by omega
    have e : l.drop p = l[p] :: l.drop (p + 1) := List.drop_eq_getElem_cons hlt
    by_cases hc : l[p] = 32
    · rw [e, hc, tokens_space] at h
      obtain ⟨h1, h2⟩ := ih (p + 1) (by omega) (by omega) ts h
      refine ⟨fun hn => by rw [e, List.all_cons, hc, h1 hn]; rfl, fun x us hx => ?_⟩
      obtain ⟨g1, g2, g3, g4, g5, g6⟩ := h2 x us hx
      refine ⟨by omega, g2, g3, g4, ?_, g6⟩
      rw [show x.pos - p = (x.pos - (p + 1)) + 1 by omega, e, List.take_succ_cons, List.all_cons, hc, g5]; rfl
    · cases ht : firstF (l[p] :: l.drop (p + 1)) with
      | bad q => rw [e, tokens_bad hc ht] at h; cases h
      | tok t =>
        rw [e, tokens_tok hc ht, ← e, List.drop_drop] at h
        have hl := first_len ht
        rw [← e, List.length_drop] at hl
        cases hr : tokens (l.drop (p + t.len)) (p + t.len) with
        | bad q e => rw [hr] at h; cases h
        | ok ws =>
          rw [hr] at h
          injection h with h
          subst h
          refine ⟨(fun hn => by cases hn), fun x us hx => ?_⟩
          injection hx with hx hu
          subst hx; subst hu
          have es : (mk t p (l.drop p)).s = (l.drop p).take t.len := rfl
          have el : (mk t p (l.drop p)).s.length = t.len := by rw [es, List.length_take, List.length_drop]; omega
          have ep : (mk t p (l.drop p)).pos = p := rfl
          refine ⟨Nat.le_refl _, fun g => by rw [g] at el; simp at el; omega, by rw [ep, el]; omega, by rw [ep, el, es], by rw [ep, Nat.sub_self]; rfl, by rw [ep, el]; exact hr⟩

/-! ### Keywords -/
def keyB (l : List UInt8) : Bool := decide (l = [97, 110, 100]) || decide (l = [111, 114]) || decide (l = [110, 111, 116]) || decide (l = [116, 114, 117, 101]) || decide (l = [102, 97, 108, 115, 101]) || decide (l = [105, 102]) || decide (l = [108, 101, 110])
theorem take_tw (p : UInt8 → Bool) : ∀ l : List UInt8, l.take (l.takeWhile p).length = l.takeWhile p
  | [] => rfl
  | c :: l => by
    rw [List.takeWhile_cons]
    split
    · rw [List.length_cons, List.take_succ_cons, take_tw p l]
    · rfl
theorem tw_id (p : UInt8 → Bool) : ∀ l : List UInt8, l.takeWhile p = l ↔ l.all p = true
  | [] => by simp
  | c :: l => by
    rw [List.takeWhile_cons, List.all_cons]
    by_cases h : p c = true
    · rw [if_pos h, h, Bool.true_and, ← tw_id p l]; simp
    · rw [if_neg h]; simp [h]
end Go.Proofs.YtehkebncdahmcaaGreatDoor.LexM
