/- Plain mathematics: the tokens of a printed formula (P3.1, P4.3). No program is named here. -/
import Derived.Test.YtbkbhkgkfolalaaGreatDoorBase
import Derived.Test.YtbkbhkgkfolalaaGreatDoorParseMath
import Derived.Test.YtbkbhkgkfolalaaGreatDoorPrintMath
import Derived.Test.YtbkbhkgkfolalaaGreatDoorPsLex
namespace Go.Proofs.YtbkbhkgkfolalaaGreatDoor.PbL
open ValM LexM ExM ShowM PrM NumM ParseM
set_option linter.unusedVariables false

/-- A token without its offset. -/
abbrev B := Int × List UInt8 × Int × Int × List UInt8
def word (s : List UInt8) : B := (2, s, 0, 0, [])
def sg (s : List UInt8) : B := (4, s, 0, 0, [])
def sepB (c : UInt8) : Bool := decide (c = 32) || decide (c = 40) || decide (c = 41) || decide (c = 44)
def Sep (r : List UInt8) : Prop := r = [] ∨ ∃ c r', r = c :: r' ∧ sepB c = true
theorem Sep.nil : Sep [] := .inl rfl
theorem Sep.of {c : UInt8} (r : List UInt8) (h : sepB c = true) : Sep (c :: r) := .inr ⟨c, r, rfl, h⟩
def app (ts : List Tk) (r : Res) : Res := ts.foldr Res.cons r
theorem app_app (a b : List Tk) (r : Res) : app (a ++ b) r = app a (app b r) := by simp [app]
theorem app_ok (a b : List Tk) : app a (.ok b) = .ok (a ++ b) := by
  induction a with
  | nil => rfl
  | cons x a ih => show Res.cons x (app a (.ok b)) = _; rw [ih]; rfl
/-- A text that is these tokens, wherever what follows does not lengthen the last; whatever follows. -/
def Lx (l : List UInt8) (bs : List B) : Prop := ∀ rest p, Sep rest → ∃ ts, ts.map Tk.bare = bs ∧ tokens (l ++ rest) p = app ts (tokens rest (p + l.length))
def LxA (l : List UInt8) (bs : List B) : Prop := ∀ rest p, ∃ ts, ts.map Tk.bare = bs ∧ tokens (l ++ rest) p = app ts (tokens rest (p + l.length))
theorem LxA.lx {l : List UInt8} {bs : List B} (h : LxA l bs) : Lx l bs := fun rest p _ => h rest p
theorem LxA.cat {a b : List UInt8} {as bs : List B} (ha : LxA a as) (hb : LxA b bs) : LxA (a ++ b) (as ++ bs) := fun rest p => by
  obtain ⟨t1, e1, h1⟩ := ha (b ++ rest) p
  obtain ⟨t2, e2, h2⟩ := hb rest (p + a.length)
  exact ⟨t1 ++ t2, by rw [List.map_append, e1, e2], by rw [List.append_assoc, h1, h2, app_app, List.length_append, Nat.add_assoc]⟩
theorem LxA.cat' {a b : List UInt8} {as bs : List B} (ha : LxA a as) (hb : Lx b bs) : Lx (a ++ b) (as ++ bs) := fun rest p hs => by
  obtain ⟨t1, e1, h1⟩ := ha (b ++ rest) p
  obtain ⟨t2, e2, h2⟩ := hb rest (p + a.length) hs
  exact ⟨t1 ++ t2, by rw [List.map_append, e1, e2], by rw [List.append_assoc, h1, h2, app_app, List.length_append, Nat.add_assoc]⟩
theorem Lx.sep {a b : List UInt8} {c : UInt8} {as bs : List B} (ha : Lx a as) (hc : sepB c = true) (hb : LxA (c :: b) bs) : LxA (a ++ (c :: b)) (as ++ bs) := fun rest p => by
  obtain ⟨t1, e1, h1⟩ := ha ((c :: b) ++ rest) p (Sep.of _ hc)
  obtain ⟨t2, e2, h2⟩ := hb rest (p + a.length)
  exact ⟨t1 ++ t2, by rw [List.map_append, e1, e2], by rw [List.append_assoc, h1, h2, app_app, List.length_append, Nat.add_assoc]⟩
theorem Lx.sep' {a b : List UInt8} {c : UInt8} {as bs : List B} (ha : Lx a as) (hc : sepB c = true) (hb : Lx (c :: b) bs) : Lx (a ++ (c :: b)) (as ++ bs) := fun rest p hs => by
  obtain ⟨t1, e1, h1⟩ := ha ((c :: b) ++ rest) p (Sep.of _ hc)
  obtain ⟨t2, e2, h2⟩ := hb rest (p + a.length) hs
  exact ⟨t1 ++ t2, by rw [List.map_append, e1, e2], by rw [List.append_assoc, h1, h2, app_app, List.length_append, Nat.add_assoc]⟩

/-! ### What is one token -/
theorem lx_one {c : UInt8} {l rest : List UInt8} {p : Nat} {T : Tok} (hc : c ≠ 32) (h : firstF (c :: (l ++ rest)) = .tok T) (hl : T.len = (c :: l).length) :
    tokens ((c :: l) ++ rest) p = app [⟨T.kind, p, c :: l, T.vk, T.n, T.t⟩] (tokens rest (p + (c :: l).length)) := by
  rw [List.cons_append, tokens_tok hc h, hl]
  have e1 : (c :: (l ++ rest)).drop (c :: l).length = rest := by simp
  have e2 : mk T p (c :: (l ++ rest)) = ⟨T.kind, p, c :: l, T.vk, T.n, T.t⟩ := by unfold mk; rw [hl]; simp
  rw [e1, e2]; rfl
theorem lx_space : LxA [32] [] := fun rest p => ⟨[], rfl, by rw [List.cons_append, List.nil_append, tokens_space]; rfl⟩
theorem lx_sign {c : UInt8} (h : sgnB c = true) (h1 : c ≠ 60) : LxA [c] [sg [c]] := fun rest p => by
  have hc : c ≠ 32 := fun e => by subst e; exact absurd h (by decide)
  have hd : digB c = false := by
    unfold sgnB at h; simp only [Bool.or_eq_true, decide_eq_true_eq] at h
    rcases h with (((((((((h | h) | h) | h) | h) | h) | h) | h) | h) | h) | h <;> subst h <;> decide
  have hw : lowB c = false := by
    unfold sgnB at h; simp only [Bool.or_eq_true, decide_eq_true_eq] at h
    rcases h with (((((((((h | h) | h) | h) | h) | h) | h) | h) | h) | h) | h <;> subst h <;> decide
  have hq : c ≠ 34 := fun e => by subst e; exact absurd h (by decide)
  have h33 : c ≠ 33 := fun e => by subst e; exact absurd h (by decide)
  refine ⟨_, ?_, lx_one hc (T := ⟨4, 1, 0, 0, []⟩) ?_ rfl⟩
  · rfl
  · rw [first_cons, if_neg (by simp [hd]), if_neg (by simp [hw]), if_neg hq]
    unfold sgnT
    rw [if_neg (fun g => g.1.elim h1 h33), if_pos h]
theorem lx_less : Lx [60] [sg [60]] := fun rest p hs => by
  refine ⟨_, ?_, lx_one (by decide) (T := ⟨4, 1, 0, 0, []⟩) ?_ rfl⟩
  · rfl
  · rw [first_cons, if_neg (by decide), if_neg (by decide), if_neg (by decide)]
    unfold sgnT
    rw [if_neg, if_pos (by decide)]
    rintro ⟨_, g⟩
    rcases hs with rfl | ⟨d, r', rfl, hd⟩
    · simp at g
    · simp at g; subst g; exact absurd hd (by decide)
theorem lx_two {c : UInt8} (h : c = 60 ∨ c = 33) : LxA [c, 61] [sg [c, 61]] := fun rest p => by
  refine ⟨_, ?_, lx_one (by rcases h with rfl | rfl <;> decide) (T := ⟨4, 2, 0, 0, []⟩) ?_ rfl⟩
  · rfl
  · rw [first_cons, if_neg (by rcases h with rfl | rfl <;> decide), if_neg (by rcases h with rfl | rfl <;> decide), if_neg (by rcases h with rfl | rfl <;> decide)]
    unfold sgnT
    rw [if_pos ⟨h, by simp⟩]
theorem tw_sep (p : UInt8 → Bool) (l rest : List UInt8) (hl : l.all p = true) (hr : rest = [] ∨ ∃ c r, rest = c :: r ∧ p c = false) : (l ++ rest).takeWhile p = l := by
  induction l with
  | nil =>
    rcases hr with rfl | ⟨c, r, rfl, h⟩
    · rfl
    · rw [List.nil_append, List.takeWhile_cons, if_neg (by simp [h])]
  | cons x l ih =>
    rw [List.all_cons, Bool.and_eq_true] at hl
    rw [List.cons_append, List.takeWhile_cons, if_pos hl.1, ih hl.2]
theorem sep_not {p : UInt8 → Bool} (h : ∀ c, sepB c = true → p c = false) {rest : List UInt8} (hs : Sep rest) : rest = [] ∨ ∃ c r, rest = c :: r ∧ p c = false := by
  rcases hs with rfl | ⟨c, r, rfl, hc⟩
  · exact .inl rfl
  · exact .inr ⟨c, r, rfl, h c hc⟩
theorem sep_aln (c : UInt8) (h : sepB c = true) : alnB c = false := by
  unfold sepB at h; simp only [Bool.or_eq_true, decide_eq_true_eq] at h
  rcases h with ((h | h) | h) | h <;> subst h <;> decide
theorem sep_dig (c : UInt8) (h : sepB c = true) : digB c = false := by
  unfold sepB at h; simp only [Bool.or_eq_true, decide_eq_true_eq] at h
  rcases h with ((h | h) | h) | h <;> subst h <;> decide
theorem lx_word {l : List UInt8} (h : nameB l = true) (hl : l.length ≤ 10) : Lx l [word l] := fun rest p hs => by
  cases l with
  | nil => cases h
  | cons c r =>
    unfold nameB at h
    simp only [Bool.and_eq_true] at h
    obtain ⟨h1, h2⟩ := h
    have hd : digB c = false := by
      unfold lowB at h1; unfold digB
      simp only [Bool.and_eq_true, decide_eq_true_eq, Bool.and_eq_false_iff, decide_eq_false_iff_not] at h1 ⊢
      omega
    have hc : c ≠ 32 := fun e => by subst e; exact absurd h1 (by decide)
    have htw : (c :: (r ++ rest)).takeWhile alnB = c :: r := tw_sep alnB (c :: r) rest (by rw [List.all_cons, h2]; simp [alnB, h1]) (sep_not sep_aln hs)
    refine ⟨_, ?_, lx_one hc (T := ⟨2, (c :: r).length, 0, 0, []⟩) ?_ rfl⟩
    · rfl
    · rw [first_cons, if_neg (by simp [hd]), if_pos h1, htw]
      unfold wordT
      rw [if_neg (by omega)]
theorem dig_at (d : Nat) (h : d < 10) : digB (UInt8.ofNat (48 + d)) = true := by
  obtain rfl | rfl | rfl | rfl | rfl | rfl | rfl | rfl | rfl | rfl : d = 0 ∨ d = 1 ∨ d = 2 ∨ d = 3 ∨ d = 4 ∨ d = 5 ∨ d = 6 ∨ d = 7 ∨ d = 8 ∨ d = 9 := by omega
  all_goals decide
theorem dec_all (u : Nat) : (Lib.decDigits u).all digB = true := by
  induction u using Nat.strongRecOn with
  | _ u ih =>
    by_cases h : u < 10
    · rw [Lib.decDigits_one h, List.all_cons, dig_at u h]; rfl
    · rw [Lib.decDigits, dif_neg h, List.all_append, ih (u / 10) (by omega), List.all_cons, dig_at _ (by omega)]; rfl
theorem dec_zero (u : Nat) (h : (Lib.decDigits u).head? = some 48) : (Lib.decDigits u).length = 1 := by
  induction u using Nat.strongRecOn with
  | _ u ih =>
    by_cases g : u < 10
    · rw [Lib.decDigits_one g]; rfl
    · exfalso
      rw [Lib.decDigits, dif_neg g] at h
      have hne := dec_ne (u / 10)
      have h' : (Lib.decDigits (u / 10)).head? = some 48 := by
        cases e : Lib.decDigits (u / 10) with
        | nil => exact absurd e hne
        | cons c r => rw [e] at h; simpa using h
      have h1 := ih (u / 10) (by omega) h'
      by_cases g2 : u / 10 < 10
      · rw [Lib.decDigits_one g2] at h'
        simp only [List.head?_cons, Option.some.injEq] at h'
        have h3 := congrArg UInt8.toNat h'
        rw [UInt8.toNat_ofNat', Nat.mod_eq_of_lt (by omega)] at h3
        have : (48 : UInt8).toNat = 48 := rfl
        omega
      · rw [Lib.decDigits, dif_neg g2, List.length_append] at h1
        have := List.length_pos_iff.2 (dec_ne (u / 10 / 10))
        rw [List.length_singleton] at h1
        omega
theorem lx_num {n : Int} (h0 : 0 ≤ n) (h1 : n ≤ 1099511627776) : Lx (Lib.itoa n) [(1, Lib.itoa n, 1, n, [])] := fun rest p hs => by
  have e : Lib.itoa n = Lib.decDigits n.toNat := by unfold Lib.itoa; rw [if_neg (by omega)]
  have ha := atoiAll_itoa n (by omega) h1
  have h3 := dec_all n.toNat
  have h4 := dec_zero n.toNat
  rw [← e] at h3 h4
  obtain ⟨c, r, hc, g1, g2⟩ := dec_head n.toNat
  rw [← e] at hc
  rw [hc] at h3 h4 ha ⊢
  have hcd : digB c = true := by rw [List.all_cons, Bool.and_eq_true] at h3; exact h3.1
  have h32 : c ≠ 32 := fun e => by subst e; exact absurd hcd (by decide)
  refine ⟨_, ?_, lx_one h32 (T := ⟨1, (c :: r).length, 1, n, []⟩) ?_ rfl⟩
  · rfl
  · rw [first_cons, if_pos hcd]
    have htw : (c :: (r ++ rest)).takeWhile digB = c :: r := tw_sep digB (c :: r) rest h3 (sep_not sep_dig hs)
    rw [htw]
    unfold numT
    rw [if_neg (fun g => by have := h4 g.1; omega), ha]
    simp only
    rw [if_neg (by omega)]
theorem quoF_esc : ∀ (l rest : List UInt8), cleanL l = true → quoF (escL l ++ 34 :: rest) = some ((escL l).length + 1, l)
  | [], rest, _ => by
    show quoF (34 :: rest) = _
    cases rest <;> simp [quoF, escL]
  | c :: l, rest, h => by
    unfold cleanL at h
    rw [List.all_cons, Bool.and_eq_true] at h
    have ih := quoF_esc l rest h.2
    have hc := h.1
    simp only [Bool.and_eq_true, decide_eq_true_eq] at hc
    have he : escL (c :: l) = (if c = 34 ∨ c = 92 then [92, c] else [c]) ++ escL l := by unfold escL; rw [List.flatMap_cons]
    rw [he]
    by_cases hq : c = 34 ∨ c = 92
    · rw [if_pos hq]
      show quoF (92 :: c :: (escL l ++ 34 :: rest)) = _
      rw [quoF, if_neg (by decide), if_neg (by decide), if_pos rfl, if_pos hq, ih]
      simp
    · rw [if_neg hq]
      obtain ⟨d, r, hd⟩ : ∃ d r, escL l ++ 34 :: rest = d :: r := by
        cases escL l with
        | nil => exact ⟨_, _, rfl⟩
        | cons d r => exact ⟨_, _, rfl⟩
      rw [List.append_assoc, hd]
      show quoF (c :: d :: r) = _
      rw [quoF, if_neg (fun g => hq (.inl g)), if_neg (by omega), if_neg (fun g => hq (.inr g)), ← hd, ih]
      simp
theorem lx_quo {s : List UInt8} (h : cleanL s = true) (hl : s.length ≤ 40) : LxA (quoteL s) [(3, quoteL s, 3, 0, s)] := fun rest p => by
  refine ⟨_, ?_, lx_one (c := 34) (l := escL s ++ [34]) (by decide) (T := ⟨3, (quoteL s).length, 3, 0, s⟩) ?_ rfl⟩
  · rfl
  · rw [first_cons, if_neg (by decide), if_neg (by decide), if_pos rfl]
    unfold quoT
    rw [List.append_assoc]
    show (match quoF (escL s ++ 34 :: rest) with | none => _ | some (m, t) => _) = _
    rw [quoF_esc s rest h]
    simp only
    rw [if_neg (by omega)]
    unfold quoteL
    simp
end Go.Proofs.YtbkbhkgkfolalaaGreatDoor.PbL
