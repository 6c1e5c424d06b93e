/- Plain mathematics: the tokens of a printed formula (P3.1, P4.3). No program is named here. Plain mathematics: a printed formula is read as it was (P4.3, P4.4): its tokens. No program is named here. Plain mathematics: a printed formula is read as it was (P4.3, P4.4): the parser at its tokens. No program is named here. Plain mathematics: a formula's notation is no longer than the text that it was read from, but for blanks (P4.3, P4.4). No program is named here. -/
import Derived.Test.YtjjchbafobcofaaGreatDoorBase
import Derived.Test.YtjjchbafobcofaaGreatDoorParseMath
import Derived.Test.YtjjchbafobcofaaGreatDoorPrintMath
import Derived.Test.YtjjchbafobcofaaGreatDoorPsLex
import Derived.Test.YtjjchbafobcofaaGreatDoorParsMath
import Derived.Lib.ReplaceLaws
import Derived.Lib.CountLaws
namespace Go.Proofs.YtjjchbafobcofaaGreatDoor.PbL
open ValM LexM ExM ShowM PrM NumM ParseM
set_option linter.unusedVariables false

/-- A token without its offset. -/
abbrev B := Int × List UInt8 × Int × Int × List UInt8
def word (s : List UInt8) : B := (2, s, 0, 0, [])
def sg (s : List UInt8) : B := (4, s, 0, 0, [])
def sepB (c : UInt8) : Bool := decide (c = 32) || decide (c = 40) || decide (c = 41) || decide (c = 44)
def Sep (r : List UInt8) : Prop := r = [] ∨ ∃ c r', r = c :: r' ∧ sepB c = true
theorem Sep.nil : Sep [] := .inl rfl
theorem Sep.of {c : UInt8} (r : List UInt8) (h : sepB c = true) : Sep (c :: r) := .inr ⟨c, r, rfl, h⟩
def app (ts : List Tk) (r : Res) : Res := ts.foldr Res.cons r
theorem app_app (a b : List Tk) (r : Res) : app (a ++ b) r = app a (app b r) := by simp [app]
theorem app_ok (a b : List Tk) : app a (.ok b) = .ok (a ++ b) := by
  induction a with
  | nil => rfl
  | cons x a ih => show Res.cons x (app a (.ok b)) = _; rw [ih]; rfl
/-- A text that is these tokens, wherever what follows does not lengthen the last; whatever follows. -/
def Lx (l : List UInt8) (bs : List B) : Prop := ∀ rest p, Sep rest → ∃ ts, ts.map Tk.bare = bs ∧ tokens (l ++ rest) p = app ts (tokens rest (p + l.length))
def LxA (l : List UInt8) (bs : List B) : Prop := ∀ rest p, ∃ ts, ts.map Tk.bare = bs ∧ tokens (l ++ rest) p = app ts (tokens rest (p + l.length))
theorem LxA.lx {l : List UInt8} {bs : List B} (h : LxA l bs) : Lx l bs := fun rest p _ => h rest p
theorem LxA.cat {a b : List UInt8} {as bs : List B} (ha : LxA a as) (hb : LxA b bs) : LxA (a ++ b) (as ++ bs) := fun rest p => by
  obtain ⟨t1, e1, h1⟩ := ha (b ++ rest) p
  obtain ⟨t2, e2, h2⟩ := hb rest (p + a.length)
  exact ⟨t1 ++ t2, by rw [List.map_append, e1, e2], by rw [List.append_assoc, h1, h2, app_app, List.length_append, Nat.add_assoc]⟩
theorem LxA.cat' {a b : List UInt8} {as bs : List B} (ha : LxA a as) (hb : Lx b bs) : Lx (a ++ b) (as ++ bs) := fun rest p hs => by
  obtain ⟨t1, e1, h1⟩ := ha (b ++ rest) p
  obtain ⟨t2, e2, h2⟩ := hb rest (p + a.length) hs
  exact ⟨t1 ++ t2, by rw [List.map_append, e1, e2], by rw [List.append_assoc, h1, h2, app_app, List.length_append, Nat.add_assoc]⟩
theorem Lx.sep {a b : List UInt8} {c : UInt8} {as bs : List B} (ha : Lx a as) (hc : sepB c = true) (hb : LxA (c :: b) bs) : LxA (a ++ (c :: b)) (as ++ bs) := fun rest p => by
  obtain ⟨t1, e1, h1⟩ := ha ((c :: b) ++ rest) p (Sep.of _ hc)
  obtain ⟨t2, e2, h2⟩ := hb rest (p + a.length)
  exact ⟨t1 ++ t2, by rw [List.map_append, e1, e2], by rw [List.append_assoc, h1, h2, app_app, List.length_append, Nat.add_assoc]⟩
theorem Lx.sep' {a b : List UInt8} {c : UInt8} {as bs : List B} (ha : Lx a as) (hc : sepB c = true) (hb : Lx (c :: b) bs) : Lx (a ++ (c :: b)) (as ++ bs) := fun rest p hs => by
  obtain ⟨t1, e1, h1⟩ := ha ((c :: b) ++ rest) p (Sep.of _ hc)
  obtain ⟨t2, e2, h2⟩ := hb rest (p + a.length) hs
  exact ⟨t1 ++ t2, by rw [List.map_append, e1, e2], by rw [List.append_assoc, h1, h2, app_app, List.length_append, Nat.add_assoc]⟩

/-! ### What is one token -/
theorem lx_one {c : UInt8} {l rest : List UInt8} {p : Nat} {T : Tok} (hc : c ≠ 32) (h : firstF (c :: (l ++ rest)) = .tok T) (hl : T.len = (c :: l).length) :
    tokens ((c :: l) ++ rest) p = app [⟨T.kind, p, c :: l, T.vk, T.n, T.t⟩] (tokens rest (p + (c :: l).length)) := by
  rw [List.cons_append, tokens_tok hc h, hl]
  have e1 : (c :: (l ++ rest)).drop (c :: l).length = rest := by simp
  have e2 : mk T p (c :: (l ++ rest)) = ⟨T.kind, p, c :: l, T.vk, T.n, T.t⟩ := by unfold mk; rw [hl]; simp
  rw [e1, e2]; rfl
theorem lx_space : LxA [32] [] := fun rest p => ⟨[], rfl, by rw [List.cons_append, List.nil_append, tokens_space]; rfl⟩
theorem lx_sign {c : UInt8} (h : sgnB c = true) (h1 : c ≠ 60) : LxA [c] [sg [c]] := fun rest p => by
  have hc : c ≠ 32 := fun e => by subst e; exact absurd h (by decide)
  have hd : digB c = false := by
    unfold sgnB at h; simp only [Bool.or_eq_true, decide_eq_true_eq] at h
    rcases h with (((((((((h | h) | h) | h) | h) | h) | h) | h) | h) | h) | h <;> subst h <;> decide
  have hw : lowB c = false := by
    unfold sgnB at h; simp only [Bool.or_eq_true, decide_eq_true_eq] at h
    rcases h with (((((((((h | h) | h) | h) | h) | h) | h) | h) | h) | h) | h <;> subst h <;> decide
  have hq : c ≠ 34 := fun e => by subst e; exact absurd h (by decide)
  have h33 : c ≠ 33 := fun e => by subst e; exact absurd h (by decide)
  refine ⟨_, ?_, lx_one hc (T := ⟨4, 1, 0, 0, []⟩) ?_ rfl⟩
  · rfl
  · rw [first_cons, if_neg (by simp [hd]), if_neg (by simp [hw]), if_neg hq]
    unfold sgnT
    rw [if_neg (fun g => g.1.elim h1 h33), if_pos h]
theorem lx_less : Lx [60] [sg [60]] := fun rest p hs => by
  refine ⟨_, ?_, lx_one (by decide) (T := ⟨4, 1, 0, 0, []⟩) ?_ rfl⟩
  · rfl
  · rw [first_cons, if_neg (by decide), if_neg (by decide), if_neg (by decide)]
    unfold sgnT
    rw [if_neg, if_pos (by decide)]
    rintro ⟨_, g⟩
    rcases hs with rfl | ⟨d, r', rfl, hd⟩
    · simp at g
    · simp at g; subst g; exact absurd hd (by decide)
theorem lx_two {c : UInt8} (h : c = 60 ∨ c = 33) : LxA [c, 61] [sg [c, 61]] := fun rest p => by
  refine ⟨_, ?_, lx_one (by rcases h with rfl | rfl <;> decide) (T := ⟨4, 2, 0, 0, []⟩) ?_ rfl⟩
  · rfl
  · rw [first_cons, if_neg (by rcases h with rfl | rfl <;> decide), if_neg (by rcases h with rfl | rfl <;> decide), if_neg (by rcases h with rfl | rfl <;> decide)]
    unfold sgnT
    rw [if_pos ⟨h, by simp⟩]
theorem tw_sep (p : UInt8 → Bool) (l rest : List UInt8) (hl : l.all p = true) (hr : rest = [] ∨ ∃ c r, rest = c :: r ∧ p c = false) : (l ++ rest).takeWhile p = l := by
  induction l with
  | nil =>
    rcases hr with rfl | ⟨c, r, rfl, h⟩
    · rfl
    · rw [List.nil_append, List.takeWhile_cons, if_neg (by simp [h])]
  | cons x l ih =>
    rw [List.all_cons, Bool.and_eq_true] at hl
    rw [List.cons_append, List.takeWhile_cons, if_pos hl.1, ih hl.2]
theorem sep_not {p : UInt8 → Bool} (h : ∀ c, sepB c = true → p c = false) {rest : List UInt8} (hs : Sep rest) : rest = [] ∨ ∃ c r, rest = c :: r ∧ p c = false := by
  rcases hs with rfl | ⟨c, r, rfl, hc⟩
  · exact .inl rfl
  · exact .inr ⟨c, r, rfl, h c hc⟩
theorem sep_aln (c : UInt8) (h : sepB c = true) : alnB c = false := by
  unfold sepB at h; simp only [Bool.or_eq_true, decide_eq_true_eq] at h
  rcases h with ((h | h) | h) | h <;> subst h <;> decide
theorem sep_dig (c : UInt8) (h : sepB c = true) : digB c = false := by
  unfold sepB at h; simp only [Bool.or_eq_true, decide_eq_true_eq] at h
  rcases h with ((h | h) | h) | h <;> subst h <;> decide
theorem lx_word {l : List UInt8} (h : nameB l = true) (hl : l.length ≤ 10) : Lx l [word l] := fun rest p hs => by
  cases l with
  | nil => cases h
  | cons c r =>
    unfold nameB at h
    simp only [Bool.and_eq_true] at h
    obtain ⟨h1, h2⟩ := h
    have hd : digB c = false := by
      unfold lowB at h1; unfold digB
      simp only [Bool.and_eq_true, decide_eq_true_eq, Bool.and_eq_false_iff, decide_eq_false_iff_not] at h1 ⊢
      omega
    have hc : c ≠ 32 := fun e => by subst e; exact absurd h1 (by decide)
    have htw : (c :: (r ++ rest)).takeWhile alnB = c :: r := tw_sep alnB (c :: r) rest (by rw [List.all_cons, h2]; simp [alnB, h1]) (sep_not sep_aln hs)
    refine ⟨_, ?_, lx_one hc (T := ⟨2, (c :: r).length, 0, 0, []⟩) ?_ rfl⟩
    · rfl
    · rw [first_cons, if_neg (by simp [hd]), if_pos h1, htw]
      unfold wordT
      rw [if_neg (by omega)]
theorem dig_at (d : Nat) (h : d < 10) : digB (UInt8.ofNat (48 + d)) = true := by
  obtain rfl | rfl | rfl | rfl | rfl | rfl | rfl | rfl | rfl | rfl : d = 0 ∨ d = 1 ∨ d = 2 ∨ d = 3 ∨ d = 4 ∨ d = 5 ∨ d = 6 ∨ d = 7 ∨ d = 8 ∨ d = 9 := by omega
  all_goals decide
theorem dec_all (u : Nat) : (Lib.decDigits u).all digB = true := by
  induction u using Nat.strongRecOn with
  | _ u ih =>
    by_cases h : u < 10
    · rw [Lib.decDigits_one h, List.all_cons, dig_at u h]; rfl
    · rw [Lib.decDigits, dif_neg h, List.all_append, ih (u / 10) (by omega), List.all_cons, dig_at _ (by omega)]; rfl
theorem dec_zero (u : Nat) (h : (Lib.decDigits u).head? = some 48) : (Lib.decDigits u).length = 1 := by
  induction u using Nat.strongRecOn with
  | _ u ih =>
    by_cases g : u < 10
    · rw [Lib.decDigits_one g]; rfl
    · exfalso
      rw [Lib.decDigits, dif_neg g] at h
      have hne := dec_ne (u / 10)
      have h' : (Lib.decDigits (u / 10)).head? = some 48 := by
        cases e : Lib.decDigits (u / 10) with
        | nil => exact absurd e hne
        | cons c r => rw [e] at h; simpa using h
      have h1 := ih (u / 10) (by omega) h'
      by_cases g2 : u / 10 < 10
      · rw [Lib.decDigits_one g2] at h'
        simp only [List.head?_cons, Option.some.injEq] at h'
        have h3 := congrArg UInt8.toNat h'
        rw [UInt8.toNat_ofNat', Nat.mod_eq_of_lt (by omega)] at h3
        have : (48 : UInt8).toNat = 48 := rfl
        omega
      · rw [Lib.decDigits, dif_neg g2, List.length_append] at h1
        have := List.length_pos_iff.2 (dec_ne (u / 10 / 10))
        rw [List.length_singleton] at h1
        omega
theorem lx_num {n : Int} (h0 : 0 ≤ n) (h1 : n ≤ 1099511627776) : Lx (Lib.itoa n) [(1, Lib.itoa n, 1, n, [])] := fun rest p hs => by
  have e : Lib.itoa n = Lib.decDigits n.toNat := by unfold Lib.itoa; rw [if_neg (by omega)]
  have ha := atoiAll_itoa n (by omega) h1
  have h3 := dec_all n.toNat
  have h4 := dec_zero n.toNat
  rw [← e] at h3 h4
  obtain ⟨c, r, hc, g1, g2⟩ := dec_head n.toNat
  rw [← e] at hc
  rw [hc] at h3 h4 ha ⊢
  have hcd : digB c = true := by rw [List.all_cons, Bool.and_eq_true] at h3; exact h3.1
  have h32 : c ≠ 32 := fun e => by subst e; exact absurd hcd (by decide)
  refine ⟨_, ?_, lx_one h32 (T := ⟨1, (c :: r).length, 1, n, []⟩) ?_ rfl⟩
  · rfl
  · rw [first_cons, if_pos hcd]
    have htw : (c :: (r ++ rest)).takeWhile digB = c :: r := tw_sep digB (c :: r) rest h3 (sep_not sep_dig hs)
    rw [htw]
    unfold numT
    rw [if_neg (fun g => by have := h4 g.1; omega), ha]
    simp only
    rw [if_neg (by omega)]
theorem quoF_esc : ∀ (l rest : List UInt8), cleanL l = true → quoF (escL l ++ 34 :: rest) = some ((escL l).length + 1, l)
  | [], rest, _ => by
    show quoF (34 :: rest) = _
    cases rest <;> simp [quoF, escL]
  | c :: l, rest, h => by
    unfold cleanL at h
    rw [List.all_cons, Bool.and_eq_true] at h
    have ih := quoF_esc l rest h.2
    have hc := h.1
    simp only [Bool.and_eq_true, decide_eq_true_eq] at hc
    have he : escL (c :: l) = (if c = 34 ∨ c = 92 then [92, c] else [c]) ++ escL l := by unfold escL; rw [List.flatMap_cons]
    rw [he]
    by_cases hq : c = 34 ∨ c = 92
    · rw [if_pos hq]
      show quoF (92 :: c :: (escL l ++ 34 :: rest)) = _
      rw [quoF, if_neg (by decide), if_neg (by decide), if_pos rfl, if_pos hq, ih]
      simp
    · rw [if_neg hq]
      obtain ⟨d, r, hd⟩ : ∃ d r, escL l ++ 34 :: rest = d :: r := by
        cases escL l with
        | nil => exact ⟨_, _, rfl⟩
        | cons d r => exact ⟨_, _, rfl⟩
      rw [List.append_assoc, hd]
      show quoF (c :: d :: r) = _
      rw [quoF, if_neg (fun g => hq (.inl g)), if_neg (by omega), if_neg (fun g => hq (.inr g)), ← hd, ih]
      simp
theorem lx_quo {s : List UInt8} (h : cleanL s = true) (hl : s.length ≤ 40) : LxA (quoteL s) [(3, quoteL s, 3, 0, s)] := fun rest p => by
  refine ⟨_, ?_, lx_one (c := 34) (l := escL s ++ [34]) (by decide) (T := ⟨3, (quoteL s).length, 3, 0, s⟩) ?_ rfl⟩
  · rfl
  · rw [first_cons, if_neg (by decide), if_neg (by decide), if_pos rfl]
    unfold quoT
    rw [List.append_assoc]
    show (match quoF (escL s ++ 34 :: rest) with | none => _ | some (m, t) => _) = _
    rw [quoF_esc s rest h]
    simp only
    rw [if_neg (by omega)]
    unfold quoteL
    simp
end Go.Proofs.YtjjchbafobcofaaGreatDoor.PbL
namespace Go.Proofs.YtjjchbafobcofaaGreatDoor.PbT
open ValM LexM ExM ShowM PrM NumM ParseM PbL PsM
set_option linter.unusedVariables false

def opB (op : Int) : B := if op = 4 ∨ op = 15 ∨ op = 16 ∨ op = 17 ∨ op = 18 then word (signF op) else sg (signF op)
def brB (p : Int) (t : Int × List B) : List B := if precF t.1 < p then sg [40] :: (t.2 ++ [sg [41]]) else t.2
def commasB : List (List B) → List B
  | [] => []
  | [a] => a
  | a :: r => a ++ (sg [44] :: commasB r)
def argB (ts : List (Int × List B)) (i : Nat) : Int × List B := ts.getD i (0, [])
def leafB (d : Nd) : B :=
  if d.op = 1 then (if d.k = 1 then (1, Lib.itoa d.n, 1, d.n, []) else if d.k = 2 then word (showL 2 d.n []) else (3, quoteL d.s.data.toList, 3, 0, d.s.data.toList)) else word d.nm.data.toList
def btF (d : Nd) (ts : List (Int × List B)) : List B :=
  if d.op = 1 ∨ d.op = 2 then [leafB d]
  else if precF d.op = 6 then opB d.op :: sg [40] :: (commasB (ts.map (·.2)) ++ [sg [41]])
  else if precF d.op = 5 then opB d.op :: brB 5 (argB ts 0)
  else brB (leftF d.op) (argB ts 0) ++ (opB d.op :: brB (precF d.op + 1) (argB ts 1))
mutual
def Ex.bt : Ex → List B | .mk d l => btF d (btL l)
def btL : List Ex → List (Int × List B) | [] => [] | x :: l => (x.d.op, Ex.bt x) :: btL l
end
theorem bt_mk (d : Nd) (l : List Ex) : Ex.bt (.mk d l) = btF d (btL l) := by simp [Ex.bt]
theorem btL_cons (x : Ex) (l : List Ex) : btL (x :: l) = (x.d.op, Ex.bt x) :: btL l := by simp [btL]
theorem btL_map (l : List Ex) : btL l = l.map fun x => (x.d.op, Ex.bt x) := by
  induction l with
  | nil => simp [btL]
  | cons x l ih => rw [btL_cons, ih]; rfl

/-! ### The nodes -/
/-- What a right node is. -/
theorem node_ok {d : Nd} {m : Nat} (h : nodeE d m = 0) : 1 ≤ d.op ∧ d.op ≤ 18 ∧ m = arity d.op ∧ vOk d = true ∧ nmOk d = true := by
  unfold nodeE at h
  by_cases hr : d.op < 1 ∨ 18 < d.op
  · rw [if_pos hr] at h; exact absurd h (by decide)
  · rw [if_neg hr] at h
    by_cases hg : m = arity d.op ∧ vOk d = true ∧ nmOk d = true
    · exact ⟨by omega, by omega, hg⟩
    · rw [if_neg hg] at h; exact absurd h (by decide)
theorem bytes_nil {s : ByteArray} (h : s.data.toList.isEmpty = true) : s = ⟨#[]⟩ := by
  have h1 : s.data.toList = [] := List.isEmpty_iff.1 h
  obtain ⟨⟨l⟩⟩ := s
  simp at h1; subst h1; rfl
/-- A node with no value and no name. -/
theorem op_nd {d : Nd} (h1 : d.op ≠ 1) (h2 : d.op ≠ 2) (hv : vOk d = true) (hn : nmOk d = true) : d = ⟨d.op, 0, 0, ⟨#[]⟩, ⟨#[]⟩⟩ := by
  unfold vOk at hv
  unfold nmOk at hn
  rw [if_neg h1] at hv
  rw [if_neg h2] at hn
  simp only [Bool.and_eq_true, decide_eq_true_eq] at hv
  obtain ⟨op, k, n, s, nm⟩ := d
  simp only at hv hn ⊢
  rw [hv.1.1, hv.1.2, bytes_nil hv.2, bytes_nil hn]
/-- A constant's parts. -/
theorem con_nd {d : Nd} (h1 : d.op = 1) (hv : vOk d = true) (hn : nmOk d = true) : d.nm = ⟨#[]⟩ ∧ ((d.k = 1 ∧ 0 ≤ d.n ∧ d.n ≤ 1099511627776 ∧ d.s = ⟨#[]⟩) ∨ (d.k = 2 ∧ (d.n = 0 ∨ d.n = 1) ∧ d.s = ⟨#[]⟩) ∨ (d.k = 3 ∧ d.n = 0 ∧ cleanL d.s.data.toList = true ∧ d.s.data.toList.length ≤ 40)) := by
  unfold vOk at hv
  unfold nmOk at hn
  rw [if_pos h1] at hv
  rw [if_neg (by omega)] at hn
  refine ⟨bytes_nil hn, ?_⟩
  simp only [Bool.and_eq_true, Bool.not_eq_true', Bool.and_eq_false_iff, decide_eq_false_iff_not] at hv
  obtain ⟨hk, hneg⟩ := hv
  unfold knownB isT valE at hk
  simp only [Bool.and_eq_true, Bool.or_eq_true, decide_eq_true_eq] at hk
  obtain ⟨ht, hz⟩ := hk
  by_cases hn0 : numE d.k d.n = 0
  · rw [if_pos hn0] at hz
    have hstr : d.k ≠ 3 → d.s = ⟨#[]⟩ := fun h3 => by
      unfold strE at hz
      rw [if_neg h3] at hz
      by_cases e : d.s.data.toList = []
      · exact bytes_nil (by rw [e]; rfl)
      · rw [if_neg e] at hz; exact absurd hz (by decide)
    rcases ht with (h | h) | h
    · refine .inl ⟨h, ?_, ?_, hstr (by omega)⟩
      · rcases hneg with g | g <;> omega
      · unfold numE at hn0
        rw [if_pos h] at hn0
        cases hb : NumM.okN d.n
        · rw [hb] at hn0; simp at hn0
        · exact (NumM.okN_iff.1 hb).2
    · refine .inr (.inl ⟨h, ?_, hstr (by omega)⟩)
      unfold numE at hn0
      rw [if_neg (by omega), if_pos h] at hn0
      by_cases g : 0 ≤ d.n ∧ d.n ≤ 1
      · omega
      · rw [if_neg g] at hn0; exact absurd hn0 (by decide)
    · refine .inr (.inr ⟨h, ?_, ?_⟩)
      · unfold numE at hn0
        rw [if_neg (by omega), if_neg (by omega), if_pos (.inl h)] at hn0
        by_cases g : d.n = 0
        · exact g
        · rw [if_neg g] at hn0; exact absurd hn0 (by decide)
      · unfold strE at hz
        rw [if_pos h] at hz
        by_cases h40 : 40 < d.s.data.toList.length
        · rw [if_pos h40] at hz; exact absurd hz (by decide)
        · rw [if_neg h40] at hz
          refine ⟨?_, by omega⟩
          cases hc : cleanL d.s.data.toList
          · rw [hc] at hz; simp at hz
          · rfl
  · rw [if_neg hn0] at hz; exact absurd hz hn0
theorem len2 {α : Type} {l : List α} (h : l.length = 2) : ∃ x y, l = [x, y] := by
  match l, h with
  | [a, b], _ => exact ⟨a, b, rfl⟩
theorem ops {op : Int} (h1 : 3 ≤ op) (h2 : op ≤ 18) : op = 3 ∨ op = 4 ∨ op = 5 ∨ op = 6 ∨ op = 7 ∨ op = 8 ∨ op = 9 ∨ op = 10 ∨ op = 11 ∨ op = 12 ∨ op = 13 ∨ op = 14 ∨ op = 15 ∨ op = 16 ∨ op = 17 ∨ op = 18 := by omega

/-! ### The text is these tokens -/
theorem lx_nil : Lx [] [] := fun rest p _ => ⟨[], rfl, rfl⟩
theorem lx_br {p op : Int} {l : List UInt8} {bs : List B} (h : Lx l bs) : Lx (br p (op, l)) (brB p (op, bs)) := by
  unfold br brB
  split
  · exact (LxA.cat (a := [40]) (lx_sign (by decide) (by decide)) (h.sep (c := 41) (b := []) (by decide) (lx_sign (by decide) (by decide)))).lx
  · exact h
theorem lx_commas : ∀ l : List Ex, (∀ x ∈ l, Lx (Ex.txt x) (Ex.bt x)) → Lx (commas (l.map Ex.txt)) (commasB (l.map Ex.bt))
  | [], _ => lx_nil
  | [x], h => h x (by simp)
  | x :: y :: r, h => by
    have ih := lx_commas (y :: r) fun z hz => h z (by simp only [List.mem_cons] at hz ⊢; exact .inr hz)
    exact (h x (by simp)).sep' (c := 44) (by decide) (LxA.cat' (a := [44]) (lx_sign (by decide) (by decide)) (LxA.cat' (a := [32]) lx_space ih))
theorem lx_op {op : Int} (h1 : 5 ≤ op) (h2 : op ≤ 16) : Lx (signF op) [opB op] := by
  obtain h | h | h | h | h | h | h | h | h | h | h | h | h | h | h | h := ops (by omega : 3 ≤ op) (by omega)
  all_goals try omega
  all_goals subst h
  · exact (lx_sign (c := 42) (by decide) (by decide)).lx
  · exact (lx_sign (c := 47) (by decide) (by decide)).lx
  · exact (lx_sign (c := 37) (by decide) (by decide)).lx
  · exact (lx_sign (c := 43) (by decide) (by decide)).lx
  · exact (lx_sign (c := 45) (by decide) (by decide)).lx
  · exact (lx_sign (c := 38) (by decide) (by decide)).lx
  · exact lx_less
  · exact (lx_two (.inl rfl)).lx
  · exact (lx_sign (c := 61) (by decide) (by decide)).lx
  · exact (lx_two (.inr rfl)).lx
  · exact lx_word (l := [97, 110, 100]) (by decide) (by decide)
  · exact lx_word (l := [111, 114]) (by decide) (by decide)
theorem prec_bin {op : Int} (h1 : 5 ≤ op) (h2 : op ≤ 16) : 0 ≤ precF op ∧ precF op ≤ 4 := by
  obtain h | h | h | h | h | h | h | h | h | h | h | h | h | h | h | h := ops (by omega : 3 ≤ op) (by omega)
  all_goals try omega
  all_goals subst h; decide
theorem lx_leaf {d : Nd} (h : d.op = 1 ∨ d.op = 2) (hv : vOk d = true) (hn : nmOk d = true) (ts : List (Int × List UInt8)) : Lx (txtF d ts) [leafB d] := by
  unfold txtF leafB
  by_cases h1 : d.op = 1
  · rw [if_pos h1, if_pos h1]
    obtain ⟨_, ⟨hk, g0, g1, hs⟩ | ⟨hk, g, hs⟩ | ⟨hk, g, g1, g2⟩⟩ := con_nd h1 hv hn
    · rw [if_pos hk, hk]
      show Lx (Lib.itoa d.n) _
      exact lx_num g0 g1
    · rw [if_neg (by omega), if_pos hk, hk]
      rcases g with g | g
      · rw [g]; exact lx_word (l := falseB) (by decide) (by decide)
      · rw [g]; exact lx_word (l := trueB) (by decide) (by decide)
    · rw [if_neg (by omega), if_neg (by omega), hk]
      show Lx (quoteL d.s.data.toList) _
      exact (lx_quo g1 g2).lx
  · have h2 : d.op = 2 := by omega
    rw [if_neg h1, if_pos h2, if_neg h1]
    unfold nmOk nmB at hn
    rw [if_pos h2] at hn
    simp only [Bool.and_eq_true, decide_eq_true_eq] at hn
    exact lx_word hn.1.2 hn.1.1.2
theorem lx_txt : ∀ x : Ex, x.okN → Lx (Ex.txt x) (Ex.bt x) := by
  refine Ex.ind fun d l ih => ?_
  intro hok
  obtain ⟨h0, hl⟩ := (okN_mk d l).1 hok
  obtain ⟨ho1, ho2, ha, hv, hn⟩ := node_ok h0
  have ih' : ∀ x ∈ l, Lx (Ex.txt x) (Ex.bt x) := fun x hx => ih x hx (hl x hx)
  rw [txt_mk, bt_mk]
  unfold btF
  by_cases hlf : d.op = 1 ∨ d.op = 2
  · rw [if_pos hlf]; exact lx_leaf hlf hv hn _
  rw [if_neg hlf]
  have e1 : (txtL l).map (·.2) = l.map Ex.txt := by rw [txtL_map, List.map_map]; rfl
  have e2 : (btL l).map (·.2) = l.map Ex.bt := by rw [btL_map, List.map_map]; rfl
  unfold txtF
  rw [if_neg (by omega), if_neg (by omega)]
  by_cases h6 : precF d.op = 6
  · rw [if_pos h6, if_pos h6, e1, e2]
    have hop : Lx (signF d.op) [opB d.op] := by
      obtain h | h | h | h | h | h | h | h | h | h | h | h | h | h | h | h := ops (by omega : 3 ≤ d.op) (by omega)
      all_goals rw [h] at h6 ⊢
      all_goals first | (exfalso; revert h6; decide) | exact lx_word (l := [105, 102]) (by decide) (by decide) | exact lx_word (l := [108, 101, 110]) (by decide) (by decide)
    exact (hop.sep (c := 40) (by decide) (LxA.cat (a := [40]) (lx_sign (by decide) (by decide)) ((lx_commas l ih').sep (c := 41) (b := []) (by decide) (lx_sign (by decide) (by decide))))).lx
  rw [if_neg h6, if_neg h6]
  have hlen := ha
  by_cases h5 : precF d.op = 5
  · rw [if_pos h5, if_pos h5]
    have h34 : d.op = 3 ∨ d.op = 4 := by
      obtain h | h | h | h | h | h | h | h | h | h | h | h | h | h | h | h := ops (by omega : 3 ≤ d.op) (by omega)
      all_goals rw [h] at h5 ⊢
      all_goals first | decide | (exfalso; revert h5; decide)
    obtain ⟨x, rfl⟩ : ∃ x, l = [x] := by
      have : l.length = 1 := by rw [ha]; unfold arity; rcases h34 with h | h <;> rw [h] <;> rfl
      exact List.length_eq_one_iff.1 this
    have hb := lx_br (p := 5) (op := x.d.op) (ih' x (by simp))
    rw [txtL_cons, btL_cons]
    show Lx (if d.op = 4 then signF d.op ++ (32 :: br 5 (x.d.op, Ex.txt x)) else signF d.op ++ br 5 (x.d.op, Ex.txt x)) (opB d.op :: brB 5 (x.d.op, Ex.bt x))
    rcases h34 with h | h
    · rw [if_neg (by omega), h]
      exact LxA.cat' (a := [45]) (lx_sign (by decide) (by decide)) hb
    · rw [if_pos h, h]
      exact (lx_word (l := [110, 111, 116]) (by decide) (by decide)).sep' (c := 32) (by decide) (LxA.cat' (a := [32]) lx_space hb)
  · have h34 : d.op ≠ 3 ∧ d.op ≠ 4 ∧ d.op ≠ 17 ∧ d.op ≠ 18 := by
      refine ⟨?_, ?_, ?_, ?_⟩
      · intro h; rw [h] at h5; exact h5 (by decide)
      · intro h; rw [h] at h5; exact h5 (by decide)
      · intro h; rw [h] at h6; exact h6 (by decide)
      · intro h; rw [h] at h6; exact h6 (by decide)
    rw [if_neg h5, if_neg h34.2.1, if_neg h5]
    obtain ⟨x, y, rfl⟩ : ∃ x y, l = [x, y] := by
      have : l.length = 2 := by rw [ha]; unfold arity; rw [if_neg (by omega), if_neg (by omega), if_neg (by omega)]
      exact len2 this
    have hx := lx_br (p := leftF d.op) (op := x.d.op) (ih' x (by simp))
    have hy := lx_br (p := precF d.op + 1) (op := y.d.op) (ih' y (by simp))
    rw [txtL_cons, btL_cons, txtL_cons, btL_cons]
    show Lx (br (leftF d.op) (x.d.op, Ex.txt x) ++ (32 :: (signF d.op ++ (32 :: br (precF d.op + 1) (y.d.op, Ex.txt y))))) (brB (leftF d.op) (x.d.op, Ex.bt x) ++ (opB d.op :: brB (precF d.op + 1) (y.d.op, Ex.bt y)))
    exact hx.sep' (c := 32) (by decide) (LxA.cat' (a := [32]) lx_space ((lx_op (by omega) (by omega)).sep' (c := 32) (by decide) (LxA.cat' (a := [32]) lx_space hy)))
/-- The tokens of a printed formula. -/
theorem tokens_txt {x : Ex} (h : x.okN) (p : Nat) : ∃ ts, ts.map Tk.bare = Ex.bt x ∧ tokens (Ex.txt x) p = .ok ts := by
  obtain ⟨ts, e, h1⟩ := lx_txt x h [] p Sep.nil
  rw [List.append_nil, tokens_nil, app_ok, List.append_nil] at h1
  exact ⟨ts, e, h1⟩
/-- In brackets, with blanks around. -/
theorem tokens_brackets {x : Ex} (h : x.okN) (p : Nat) : ∃ ts, ts.map Tk.bare = sg [40] :: (Ex.bt x ++ [sg [41]]) ∧ tokens ([32, 40, 32] ++ Ex.txt x ++ [32, 41, 32]) p = .ok ts := by
  have h1 : LxA ([32] ++ ([40] ++ ([32] ++ (Ex.txt x ++ (32 :: [41, 32]))))) ([] ++ ([sg [40]] ++ ([] ++ (Ex.bt x ++ ([] ++ ([sg [41]] ++ [])))))) :=
    lx_space.cat ((lx_sign (by decide) (by decide)).cat (lx_space.cat ((lx_txt x h).sep (by decide) (lx_space.cat (b := [41, 32]) ((lx_sign (c := 41) (by decide) (by decide)).cat (b := [32]) lx_space)))))
  obtain ⟨ts, e, h2⟩ := h1 [] p
  rw [List.append_nil, tokens_nil, app_ok, List.append_nil] at h2
  refine ⟨ts, by rw [e]; simp, ?_⟩
  rw [← h2]
  simp
end Go.Proofs.YtjjchbafobcofaaGreatDoor.PbT
namespace Go.Proofs.YtjjchbafobcofaaGreatDoor.PbP
open ValM LexM ExM ShowM PrM NumM ParseM PbL PsM PbT
set_option linter.unusedVariables false

/-! ### Signs -/
theorem opAt_none {s : List UInt8} (h : ∀ op, 3 ≤ op → op < 19 → (rwP op).1 ≠ s) (m : Nat) : opAt m s = none := by
  unfold opAt
  rw [List.find?_eq_none]
  intro op hop
  rw [List.mem_range] at hop
  simp only [Bool.and_eq_true, decide_eq_true_eq, not_and]
  intro g e
  exact h op g.1 hop e
theorem opsN {op : Nat} (h1 : 3 ≤ op) (h2 : op < 19) : op = 3 ∨ op = 4 ∨ op = 5 ∨ op = 6 ∨ op = 7 ∨ op = 8 ∨ op = 9 ∨ op = 10 ∨ op = 11 ∨ op = 12 ∨ op = 13 ∨ op = 14 ∨ op = 15 ∨ op = 16 ∨ op = 17 ∨ op = 18 := by omega
theorem name_none {s : List UInt8} (h : nameB s = true) (hk : keyB s = false) (m : Nat) : opAt m s = none := by
  refine opAt_none (fun op g1 g2 e => ?_) m
  subst e
  obtain h' | h' | h' | h' | h' | h' | h' | h' | h' | h' | h' | h' | h' | h' | h' | h' := opsN g1 g2
  all_goals subst h'
  all_goals first | exact absurd h (by decide) | exact absurd hk (by decide)
theorem head_none {c : UInt8} {r : List UInt8} (h : digB c = true ∨ c = 34 ∨ c = 116 ∨ c = 102) (m : Nat) : opAt m (c :: r) = none := by
  refine opAt_none (fun op g1 g2 e => ?_) m
  have hc : (rwP op).1.head? = some c := by rw [e]; rfl
  clear e
  obtain h' | h' | h' | h' | h' | h' | h' | h' | h' | h' | h' | h' | h' | h' | h' | h' := opsN g1 g2
  all_goals
    subst h'
    rcases h with h | h | h | h
    · revert hc; show some _ = some c → False; intro hc; injection hc with hc; subst hc; revert h; decide
    · subst h; revert hc; decide
    · subst h; revert hc; decide
    · subst h; revert hc; decide
theorem par_none : (∀ m, opAt m [40] = none) ∧ (∀ m, opAt m [41] = none) ∧ ∀ m, opAt m [44] = none := by
  refine ⟨fun m => opAt_none (fun op g1 g2 e => ?_) m, fun m => opAt_none (fun op g1 g2 e => ?_) m, fun m => opAt_none (fun op g1 g2 e => ?_) m⟩
  all_goals
    obtain h' | h' | h' | h' | h' | h' | h' | h' | h' | h' | h' | h' | h' | h' | h' | h' := opsN g1 g2
    all_goals subst h'; revert e; decide
/-- The sign of an operator of two operands is one of its precedence alone. -/
theorem bin_at {op : Int} (h1 : 5 ≤ op) (h2 : op ≤ 16) : opAt (precF op).toNat (signF op) = some op.toNat ∧ ∀ m, m < 5 → m ≠ (precF op).toNat → opAt m (signF op) = none := by
  obtain h | h | h | h | h | h | h | h | h | h | h | h | h | h | h | h := ops (by omega : 3 ≤ op) (by omega)
  all_goals try omega
  all_goals
    subst h
    refine ⟨by decide, fun m hm hne => ?_⟩
    obtain rfl | rfl | rfl | rfl | rfl : m = 0 ∨ m = 1 ∨ m = 2 ∨ m = 3 ∨ m = 4 := by omega
    all_goals first | decide | exact absurd rfl hne
theorem op_s (op : Int) : (opB op).2.1 = signF op := by unfold opB; split <;> rfl
theorem bare_s {t : Tk} {b : B} (h : t.bare = b) : t.s = b.2.1 := by subst h; rfl

/-! ### What follows -/
def Clear (q : Nat) (r : List Tk) : Prop := ∀ m, q ≤ m → m < 5 → ∀ t r', r = t :: r' → opAt m t.s = none
theorem Clear.mono {q q' : Nat} {r : List Tk} (h : Clear q r) (hq : q ≤ q') : Clear q' r := fun m h1 h2 => h m (by omega) h2
theorem Clear.nil (q : Nat) : Clear q [] := fun _ _ _ _ _ h => by cases h
theorem Clear.of {q : Nat} {t : Tk} {r : List Tk} (h : ∀ m, opAt m t.s = none) : Clear q (t :: r) := fun m _ _ t' r' e => by injection e with e _; subst e; exact h m
def pN (x : Ex) : Nat := min 5 (precF x.d.op).toNat
def topN (x : Ex) : Nat := if 5 ≤ pN x then 5 else if pN x = 2 then 2 else pN x + 1
/-- What a formula's tokens are read to, whatever follows. -/
def Rd (x : Ex) : Prop := ∀ (q : Nat) (ts r : List Tk) (o : Out), ts.map Tk.bare = Ex.bt x → q ≤ pN x → Clear (pN x + 1) r → Ch q (topN x) x r o → Ev (.form q) (ts ++ r) o
theorem top_le (x : Ex) : topN x ≤ 5 ∧ pN x ≤ topN x := by
  have h : pN x ≤ 5 := Nat.min_le_left _ _
  unfold topN
  split
  · omega
  · split <;> omega
theorem ch_clear {q h : Nat} {x : Ex} {r : List Tk} (h5 : h ≤ 5) (hc : Clear q r) : Ch q h x r (.ok [x] r) := chain_none fun p h1 h2 t r' e => hc p h1 (by omega) t r' e
theorem Rd.clear {x : Ex} (h : Rd x) {q : Nat} {ts r : List Tk} (e : ts.map Tk.bare = Ex.bt x) (hq : q ≤ pN x) (hc : Clear q r) : Ev (.form q) (ts ++ r) (.ok [x] r) :=
  h q ts r _ e hq (hc.mono (by omega)) (ch_clear (top_le x).1 hc)
/-- In brackets. -/
theorem Rd.paren {x : Ex} (h : Rd x) {ts r : List Tk} (e : ts.map Tk.bare = sg [40] :: (Ex.bt x ++ [sg [41]])) : Ev (.form 5) (ts ++ r) (.ok [x] r) := by
  obtain ⟨a, us, rfl, ha, hu⟩ := List.map_eq_cons_iff.1 e
  obtain ⟨m, b, rfl, hm, hb⟩ := List.map_eq_append_iff.1 hu
  obtain ⟨b, rfl, hb'⟩ := List.map_eq_singleton_iff.1 hb
  have ea := bare_s ha
  have eb := bare_s hb'
  have e0 : (a :: (m ++ [b]) ++ r) = a :: (m ++ (b :: r)) := by simp
  rw [e0]
  refine ev_paren (by rw [ea]; exact par_none.1 5) ea ?_
  have h1 := h.clear (q := 0) (r := b :: r) hm (Nat.zero_le _) (Clear.of fun k => by rw [eb]; exact par_none.2.1 k)
  exact ev_list_last (acc := []) h1 (by simp) (by simp [isNext, eb]; rfl)
/-- An operand. -/
theorem Rd.operand {x : Ex} (h : Rd x) {q : Nat} {p : Int} (hp : p = (q : Int)) (h5 : q ≤ 5) {ts r : List Tk} (e : ts.map Tk.bare = brB p (x.d.op, Ex.bt x)) (hc : Clear q r) : Ev (.form q) (ts ++ r) (.ok [x] r) := by
  unfold brB at e
  split at e
  · exact form_of_chain h5 (Nat.le_refl _) (h.paren e) (ch_clear (Nat.le_refl _) hc)
  · rename_i hn
    simp only at hn
    exact h.clear e (by unfold pN; omega) hc
/-- A left operand, its operator behind it. -/
theorem Rd.left {x : Ex} (h : Rd x) {q p lf : Nat} {l : Int} (hl : l = (lf : Int)) (hqp : q ≤ p) (hp : p < 5) (hlf : lf = if p = 2 then 3 else p) {ts r : List Tk} {t : Tk} {o : Out} (e : ts.map Tk.bare = brB l (x.d.op, Ex.bt x))
    (hn : ∀ m, m < 5 → m ≠ p → opAt m t.s = none) (hc : Ch q (p + 1) x (t :: r) o) : Ev (.form q) (ts ++ t :: r) o := by
  unfold brB at e
  split at e
  · exact form_of_chain (by omega) (Nat.le_refl _) (h.paren e) (chain_skip hqp hp (fun m h1 h2 => hn m h2 (by omega)) hc)
  · rename_i hb
    simp only at hb
    have hlp : lf ≤ pN x := by
      unfold pN
      split at hlf <;> omega
    have hpp : p ≤ pN x := by split at hlf <;> omega
    have htop : p < topN x := by
      unfold topN
      split
      · omega
      · split
        · split at hlf <;> omega
        · omega
    refine h q ts (t :: r) o e (by omega) (fun m h1 h2 t' r' e' => ?_) (chain_skip hqp htop (fun m h1 h2 => hn m (by have := (top_le x).1; omega) (by omega)) hc)
    injection e' with e' _; subst e'
    exact hn m h2 (by omega)
/-- The arguments of a call. -/
theorem list_ev : ∀ (l : List Ex), (∀ x ∈ l, Rd x) → l ≠ [] → ∀ (acc : List Ex) (ts r : List Tk) (c : Tk) (n : Nat), n = acc.length + l.length → ts.map Tk.bare = commasB (l.map Ex.bt) → c.s = [41] → Ev (.list n acc) (ts ++ c :: r) (.ok (acc ++ l) r)
  | [], _, hne, _, _, _, _, _, _, _, _ => absurd rfl hne
  | [x], hR, _, acc, ts, r, c, n, hn, e, hc => by
    have h1 := (hR x (by simp)).clear (q := 0) (r := c :: r) (show ts.map Tk.bare = Ex.bt x from e) (Nat.zero_le _) (Clear.of fun k => by rw [hc]; exact par_none.2.1 k)
    exact ev_list_last h1 (by simp at hn; omega) (by simp [isNext, hc])
  | x :: y :: l, hR, _, acc, ts, r, c, n, hn, e, hc => by
    obtain ⟨t1, u, rfl, h1, hu⟩ := List.map_eq_append_iff.1 (show ts.map Tk.bare = Ex.bt x ++ (sg [44] :: commasB ((y :: l).map Ex.bt)) from e)
    obtain ⟨k, t2, rfl, hk, h2⟩ := List.map_eq_cons_iff.1 hu
    have ek := bare_s hk
    have g1 := (hR x (by simp)).clear (q := 0) (r := k :: (t2 ++ c :: r)) h1 (Nat.zero_le _) (Clear.of fun j => by rw [ek]; exact par_none.2.2 j)
    have g2 := list_ev (y :: l) (fun z hz => hR z (by simp only [List.mem_cons] at hz ⊢; exact .inr hz)) (by simp) (acc ++ [x]) t2 r c n (by simp at hn ⊢; omega) h2 hc
    have e0 : t1 ++ k :: t2 ++ c :: r = t1 ++ k :: (t2 ++ c :: r) := by simp
    rw [e0]
    have e1 : acc ++ (x :: y :: l) = acc ++ [x] ++ (y :: l) := by simp
    rw [e1]
    exact ev_list_more g1 (by simp at hn; omega) (by simp [isNext, ek]; rfl) g2

/-! ### Every right formula -/
theorem leaf_ev {d : Nd} (h : d.op = 1 ∨ d.op = 2) (hv : vOk d = true) (hn : nmOk d = true) {t : Tk} (e : t.bare = leafB d) (r : List Tk) : Ev (.form 5) (t :: r) (.ok [.mk d []] r) := by
  have ek : t.kind = (leafB d).1 := by rw [← e]; rfl
  have es : t.s = (leafB d).2.1 := by rw [← e]; rfl
  have ev : t.vk = (leafB d).2.2.1 := by rw [← e]; rfl
  have en : t.n = (leafB d).2.2.2.1 := by rw [← e]; rfl
  have et : t.t = (leafB d).2.2.2.2 := by rw [← e]; rfl
  obtain ⟨op, k, n, s, nm⟩ := d
  by_cases h1 : op = 1
  · subst h1
    obtain ⟨hnm, ⟨hk, g0, g1, hs⟩ | ⟨hk, g, hs⟩ | ⟨hk, g, g1, g2⟩⟩ := con_nd rfl hv hn
    · simp only at hnm hk g0 g1 hs; subst hnm hk hs
      have hl : leafB ⟨1, 1, n, ⟨#[]⟩, ⟨#[]⟩⟩ = (1, Lib.itoa n, 1, n, []) := rfl
      rw [hl] at ek es ev en et
      obtain ⟨c, r', hc, g2, g3⟩ := dec_head n.toNat
      have hs : t.s = c :: r' := by rw [es, ← hc]; show Lib.itoa n = _; unfold Lib.itoa; rw [if_neg (by omega)]
      have hd : digB c = true := by unfold digB; simp [g2, g3]
      refine ev_leaf (by rw [hs]; exact head_none (.inl hd) 5) (by rw [hs]; intro g; injection g with g _; subst g; exact absurd hd (by decide)) (by rw [hs]; exact head_none (.inl hd) 6) ?_
      unfold leafN
      rw [if_pos (.inl ek), ev, en, et]
    · simp only at hnm hk g hs; subst hnm hk hs
      have hl : leafB ⟨1, 2, n, ⟨#[]⟩, ⟨#[]⟩⟩ = word (showL 2 n []) := rfl
      rw [hl] at ek es
      have ek : t.kind = 2 := ek
      rcases g with g | g
      · subst g
        have hs : t.s = falseB := es
        refine ev_leaf (by rw [hs]; exact head_none (.inr (.inr (.inr rfl))) 5) (by rw [hs]; decide) (by rw [hs]; exact head_none (.inr (.inr (.inr rfl))) 6) ?_
        unfold leafN
        rw [if_neg (by omega), hs, if_neg (by decide), if_pos rfl]
      · subst g
        have hs : t.s = trueB := es
        refine ev_leaf (by rw [hs]; exact head_none (.inr (.inr (.inl rfl))) 5) (by rw [hs]; decide) (by rw [hs]; exact head_none (.inr (.inr (.inl rfl))) 6) ?_
        unfold leafN
        rw [if_neg (by omega), hs, if_pos rfl]
    · simp only at hnm hk g g1 g2; subst hnm hk g
      have hl : leafB ⟨1, 3, 0, s, ⟨#[]⟩⟩ = (3, quoteL s.data.toList, 3, 0, s.data.toList) := rfl
      rw [hl] at ek es ev en et
      have hs : t.s = 34 :: (escL s.data.toList ++ [34]) := es
      refine ev_leaf (by rw [hs]; exact head_none (.inr (.inl rfl)) 5) (by rw [hs]; intro g; injection g with g _; exact absurd g (by decide)) (by rw [hs]; exact head_none (.inr (.inl rfl)) 6) ?_
      unfold leafN
      rw [if_pos (.inr ek), ev, en, et]
  · have h2 : op = 2 := by simp only at h; omega
    subst h2
    have hv' := hv
    unfold vOk at hv'
    unfold nmOk nmB at hn
    rw [if_neg (by show ¬ (2 : Int) = 1; decide)] at hv'
    rw [if_pos rfl] at hn
    simp only [Bool.and_eq_true, decide_eq_true_eq, Bool.not_eq_true'] at hn hv'
    obtain ⟨⟨⟨_, h10⟩, hnb⟩, hkb⟩ := hn
    obtain ⟨⟨hk0, hn0⟩, hs0⟩ := hv'
    have hs0 := bytes_nil hs0
    subst hk0 hn0 hs0
    have hl : leafB ⟨2, 0, 0, ⟨#[]⟩, nm⟩ = word nm.data.toList := rfl
    rw [hl] at ek es
    have ek : t.kind = 2 := ek
    have es : t.s = nm.data.toList := es
    refine ev_leaf (by rw [es]; exact name_none hnb hkb 5) (by rw [es]; intro g; rw [g] at hnb; exact absurd hnb (by decide)) (by rw [es]; exact name_none hnb hkb 6) ?_
    unfold leafN
    rw [if_neg (by omega), es, if_neg (fun g => by rw [g] at hkb; exact absurd hkb (by decide)), if_neg (fun g => by rw [g] at hkb; exact absurd hkb (by decide)), if_pos ⟨ek, hkb⟩]
theorem p5_of {x : Ex} (h : 5 ≤ precF x.d.op) : pN x = 5 ∧ topN x = 5 := by
  have h1 : pN x = 5 := by unfold pN; omega
  exact ⟨h1, by unfold topN; rw [if_pos (by omega)]⟩
theorem opN_nd {d : Nd} {l : List Ex} (h0 : 0 ≤ d.op) (h : d = ⟨d.op, 0, 0, ⟨#[]⟩, ⟨#[]⟩⟩) : opN d.op.toNat l = .mk d l := by
  unfold opN
  have : ((d.op.toNat : Nat) : Int) = d.op := by omega
  rw [this]
  exact congrArg (fun z => Ex.mk z l) h.symm
theorem rd_all : ∀ x : Ex, x.okN → Rd x := by
  refine Ex.ind fun d l ih => ?_
  intro hok
  obtain ⟨h0, hl⟩ := (okN_mk d l).1 hok
  obtain ⟨ho1, ho2, ha, hv, hn⟩ := node_ok h0
  have ih' : ∀ x ∈ l, Rd x := fun x hx => ih x hx (hl x hx)
  intro q ts r o e hq hcl hch
  rw [bt_mk] at e
  unfold btF at e
  by_cases hlf : d.op = 1 ∨ d.op = 2
  · rw [if_pos hlf] at e
    obtain ⟨t, rfl, ht⟩ := List.map_eq_singleton_iff.1 e
    have hl0 : l = [] := by
      have : l.length = 0 := by rw [ha]; unfold arity; rw [if_pos hlf]
      exact List.length_eq_zero_iff.1 this
    subst hl0
    obtain ⟨p1, p2⟩ := p5_of (x := .mk d []) (by show 5 ≤ precF d.op; rcases hlf with h | h <;> rw [h] <;> decide)
    rw [p2] at hch
    exact form_of_chain (by omega) (Nat.le_refl _) (leaf_ev hlf hv hn ht r) hch
  rw [if_neg hlf] at e
  have hnd := op_nd (by omega) (by omega) hv hn
  have hb2 : (btL l).map (·.2) = l.map Ex.bt := by rw [btL_map, List.map_map]; rfl
  by_cases h6 : precF d.op = 6
  · rw [if_pos h6, hb2] at e
    obtain ⟨t, u, rfl, ht, hu⟩ := List.map_eq_cons_iff.1 e
    obtain ⟨a, u, rfl, hA, hu⟩ := List.map_eq_cons_iff.1 hu
    obtain ⟨m, b, rfl, hm, hb⟩ := List.map_eq_append_iff.1 hu
    obtain ⟨b, rfl, hb'⟩ := List.map_eq_singleton_iff.1 hb
    have et := (bare_s ht).trans (op_s d.op)
    have eA := bare_s hA
    have eb := bare_s hb'
    have h1718 : d.op = 17 ∨ d.op = 18 := by
      obtain h | h | h | h | h | h | h | h | h | h | h | h | h | h | h | h := ops (by omega : 3 ≤ d.op) (by omega)
      all_goals rw [h] at h6 ⊢
      all_goals first | decide | (exfalso; revert h6; decide)
    obtain ⟨p1, p2⟩ := p5_of (x := .mk d l) (by show 5 ≤ precF d.op; omega)
    rw [p2] at hch
    have hsgn : opAt 5 (signF d.op) = none ∧ signF d.op ≠ [40] ∧ opAt 6 (signF d.op) = some d.op.toNat := by
      rcases h1718 with h | h <;> rw [h] <;> decide
    have har : l.length = arity ((d.op.toNat : Nat) : Int) := by rw [ha]; congr 1; omega
    have hne : l ≠ [] := fun g => by rw [g] at ha; rcases h1718 with h | h <;> rw [h] at ha <;> exact absurd ha (by decide)
    have g1 := list_ev l ih' hne [] m r b (arity ((d.op.toNat : Nat) : Int)) (by rw [← har]; simp) hm eb
    have g2 : Ev (.form 5) (t :: (a :: (m ++ b :: r))) (wrap d.op.toNat (.ok ([] ++ l) r)) := ev_call (by rw [et]; exact hsgn.1) (by rw [et]; exact hsgn.2.1) (by rw [et]; exact hsgn.2.2) (by simp [isNext, eA]; rfl) g1
    have e0 : t :: a :: (m ++ [b]) ++ r = t :: (a :: (m ++ b :: r)) := by simp
    rw [e0]
    refine form_of_chain (by omega) (Nat.le_refl _) (x := .mk d l) ?_ hch
    have e3 : wrap d.op.toNat (.ok ([] ++ l) r) = .ok [.mk d l] r := by
      show Out.ok [opN d.op.toNat l] r = _
      rw [opN_nd (by omega) hnd]
    rw [← e3]; exact g2
  rw [if_neg h6] at e
  by_cases h5 : precF d.op = 5
  · rw [if_pos h5] at e
    have h34 : d.op = 3 ∨ d.op = 4 := by
      obtain h | h | h | h | h | h | h | h | h | h | h | h | h | h | h | h := ops (by omega : 3 ≤ d.op) (by omega)
      all_goals rw [h] at h5 ⊢
      all_goals first | decide | (exfalso; revert h5; decide)
    obtain ⟨x, rfl⟩ : ∃ x, l = [x] := by
      have : l.length = 1 := by rw [ha]; unfold arity; rcases h34 with h | h <;> rw [h] <;> rfl
      exact List.length_eq_one_iff.1 this
    rw [btL_cons] at e
    obtain ⟨t, u, rfl, ht, hu⟩ := List.map_eq_cons_iff.1 (show ts.map Tk.bare = opB d.op :: brB 5 (x.d.op, Ex.bt x) from e)
    have et := (bare_s ht).trans (op_s d.op)
    obtain ⟨p1, p2⟩ := p5_of (x := .mk d [x]) (by show 5 ≤ precF d.op; omega)
    rw [p2] at hch
    have g1 := (ih' x (by simp)).operand (q := 5) (p := 5) rfl (Nat.le_refl _) (r := r) hu (fun m h1 h2 => by omega)
    have g2 : Ev (.form 5) (t :: (u ++ r)) (wrap d.op.toNat (.ok [x] r)) := ev_prefix (by rw [et]; rcases h34 with h | h <;> rw [h] <;> decide) g1
    refine form_of_chain (by omega) (Nat.le_refl _) (x := .mk d [x]) ?_ hch
    have e3 : wrap d.op.toNat (.ok [x] r) = .ok [.mk d [x]] r := by
      show Out.ok [opN d.op.toNat [x]] r = _
      rw [opN_nd (by omega) hnd]
    rw [← e3]; exact g2
  · rw [if_neg h5] at e
    have h34 : d.op ≠ 3 ∧ d.op ≠ 4 ∧ d.op ≠ 17 ∧ d.op ≠ 18 := by
      refine ⟨?_, ?_, ?_, ?_⟩
      · intro h; rw [h] at h5; exact h5 (by decide)
      · intro h; rw [h] at h5; exact h5 (by decide)
      · intro h; rw [h] at h6; exact h6 (by decide)
      · intro h; rw [h] at h6; exact h6 (by decide)
    obtain ⟨x, y, rfl⟩ : ∃ x y, l = [x, y] := by
      have : l.length = 2 := by rw [ha]; unfold arity; rw [if_neg (by omega), if_neg (by omega), if_neg (by omega)]
      exact len2 this
    rw [btL_cons, btL_cons] at e
    obtain ⟨t1, u, rfl, h1, hu⟩ := List.map_eq_append_iff.1 (show ts.map Tk.bare = brB (leftF d.op) (x.d.op, Ex.bt x) ++ (opB d.op :: brB (precF d.op + 1) (y.d.op, Ex.bt y)) from e)
    obtain ⟨t, t2, rfl, ht, h2⟩ := List.map_eq_cons_iff.1 hu
    have et := (bare_s ht).trans (op_s d.op)
    obtain ⟨hb1, hb2'⟩ := prec_bin (op := d.op) (by omega) (by omega)
    obtain ⟨hs1, hs2⟩ := bin_at (op := d.op) (by omega) (by omega)
    obtain ⟨p, hp⟩ : ∃ p : Nat, (precF d.op).toNat = p := ⟨_, rfl⟩
    have hpi : precF d.op = (p : Int) := by omega
    rw [hp] at hs1 hs2
    rw [← et] at hs1 hs2
    have hpn : pN (.mk d [x, y]) = p := by show min 5 (precF d.op).toNat = p; rw [hp]; omega
    have htop : topN (.mk d [x, y]) = if p = 2 then p else p + 1 := by
      unfold topN; rw [hpn, if_neg (by omega)]
      split
      · rename_i h; rw [h]
      · rfl
    rw [hpn] at hq hcl
    rw [htop] at hch
    have gy := (ih' y (by simp)).operand (q := p + 1) (p := precF d.op + 1) (by omega) (by omega) (r := r) h2 hcl
    have hop : opN d.op.toNat [x, y] = .mk d [x, y] := opN_nd (by omega) hnd
    have hchain : Ch q (p + 1) x (t :: (t2 ++ r)) o := chain_op hq hs1 gy (by rw [hop]; exact hch)
    have e0 : t1 ++ t :: t2 ++ r = t1 ++ t :: (t2 ++ r) := by simp
    rw [e0]
    refine (ih' x (by simp)).left (lf := if p = 2 then 3 else p) (l := leftF d.op) ?_ hq (by omega) rfl h1 hs2 hchain
    unfold leftF
    rw [hpi]
    split
    · rename_i h; rw [if_pos (by omega)]; omega
    · rename_i h; rw [if_neg (by omega)]
/-- What is printed is read as it was. -/
theorem read_txt {x : Ex} (h : x.okN) (hl : (Ex.txt x).length ≤ 160) : ∃ ts, lexR (Ex.txt x) = (ts, 0, 0) ∧ Ev (.form 0) ts (.ok [x] []) := by
  obtain ⟨ts, e, ht⟩ := tokens_txt h 0
  refine ⟨ts, by rw [lexR_of hl, ht]; rfl, ?_⟩
  have := (rd_all x h).clear (q := 0) (r := []) e (Nat.zero_le _) (Clear.nil 0)
  rw [List.append_nil] at this
  exact this
/-- In brackets, too. -/
theorem read_brackets {x : Ex} (h : x.okN) (hl : (Ex.txt x).length ≤ 154) : ∃ ts, lexR ([32, 40, 32] ++ Ex.txt x ++ [32, 41, 32]) = (ts, 0, 0) ∧ Ev (.form 0) ts (.ok [x] []) := by
  obtain ⟨ts, e, ht⟩ := tokens_brackets h 0
  refine ⟨ts, by rw [lexR_of (by simp; omega), ht]; rfl, ?_⟩
  have := (rd_all x h).paren (r := []) e
  rw [List.append_nil] at this
  exact form_of_chain (Nat.zero_le _) (Nat.le_refl _) this (ch_clear (Nat.le_refl _) (Clear.nil 0))
end Go.Proofs.YtjjchbafobcofaaGreatDoor.PbP
namespace Go.Proofs.YtjjchbafobcofaaGreatDoor.PbN
open ValM LexM ExM ShowM PrM NumM ParseM PbL PsM PbT PbP PsLx
set_option linter.unusedVariables false

/-! ### Without blanks -/
def nsp (l : List UInt8) : Nat := (l.filter (fun c => c != 32)).length
theorem nsp_append (a b : List UInt8) : nsp (a ++ b) = nsp a + nsp b := by simp [nsp]
theorem nsp_le (a : List UInt8) : nsp a ≤ a.length := List.length_filter_le _ _
theorem nsp_cons (c : UInt8) (a : List UInt8) (h : c = 32) : nsp (c :: a) = nsp a := by subst h; simp [nsp]
theorem nsp_cons_le (c : UInt8) (a : List UInt8) : nsp (c :: a) ≤ 1 + nsp a := by
  unfold nsp; rw [List.filter_cons]; split <;> simp <;> omega
theorem replace_blank : ∀ l : List UInt8, Lib.replaceK [32] [] (Lib.count l [32]) l = l.filter (fun c => c != 32)
  | [] => by
    rw [Lib.count_miss (by rfl)]; rfl
  | b :: l => by
    have ih := replace_blank l
    by_cases hb : b = 32
    · subst hb
      have hi : Lib.index (32 :: l) [32] = ((0 : Nat) : Int) := by simp [Lib.index]
      rw [Lib.count_hit (by simp) hi, Nat.add_comm, Lib.replaceK_hit _ _ _ _ 0 hi]
      simp only [List.length_cons, List.length_nil, Nat.zero_add, List.drop_succ_cons, List.drop_zero, List.take_zero, List.nil_append]
      rw [ih]; simp
    · have hp : List.isPrefixOf [32] (b :: l) = false := by simp [List.isPrefixOf]; exact fun e => hb e.symm
      have hix : Lib.index (b :: l) [32] = if Lib.index l [32] == -1 then -1 else Lib.index l [32] + 1 := by rw [Lib.index, hp]; simp
      have hf : (b :: l).filter (fun c => c != 32) = b :: l.filter (fun c => c != 32) := by rw [List.filter_cons, if_pos (by simp [hb])]
      by_cases hm : Lib.index l [32] = -1
      · rw [hm] at hix
        rw [Lib.count_miss hm] at ih
        rw [Lib.count_miss (by rw [hix]; rfl), hf, ← ih]; rfl
      · obtain ⟨i, hi⟩ : ∃ i : Nat, Lib.index l [32] = i := ⟨(Lib.index l [32]).toNat, by have := Lib.index_ge l [32]; omega⟩
        have hi2 : Lib.index (b :: l) [32] = ((i + 1 : Nat) : Int) := by
          rw [hix, if_neg (by simp [hm]), hi]; omega
        rw [Lib.count_hit (by simp) hi, Nat.add_comm, Lib.replaceK_hit _ _ _ _ i hi] at ih
        rw [Lib.count_hit (by simp) hi2, Nat.add_comm, Lib.replaceK_hit _ _ _ _ (i + 1) hi2, hf, ← ih]
        simp
theorem replaceAll_blank (l : List UInt8) : (Lib.replaceAll l [32] []).length = nsp l := by
  have h : Lib.replaceAll l [32] [] = l.filter (fun c => c != 32) := by
    unfold Lib.replaceAll Lib.replace Lib.replaceNum
    rw [if_neg (by decide), if_pos (.inl (by decide))]
    exact replace_blank l
  rw [h]; rfl

/-! ### The tokens of a notation are no shorter -/
def sumB (bs : List B) : Nat := (bs.map fun b => b.2.1.length).sum
theorem sumB_append (a b : List B) : sumB (a ++ b) = sumB a + sumB b := by simp [sumB]
theorem sumB_cons (x : B) (b : List B) : sumB (x :: b) = x.2.1.length + sumB b := by simp [sumB]
theorem sumB_nil : sumB [] = 0 := rfl
theorem sg_len (s : List UInt8) : (sg s).2.1.length = s.length := rfl
theorem sumB_br (p op : Int) (bs : List B) : sumB (brB p (op, bs)) = sumB bs + if precF op < p then 2 else 0 := by
  unfold brB
  split
  · rw [sumB_cons, sumB_append, sumB_cons, sumB_nil, sg_len, sg_len]; simp; omega
  · rfl
theorem nsp_br {p op : Int} {l : List UInt8} {bs : List B} (h : nsp l ≤ sumB bs) : nsp (br p (op, l)) ≤ sumB (brB p (op, bs)) := by
  rw [sumB_br]
  unfold br
  split
  · have h1 := nsp_cons_le 40 (l ++ [41])
    rw [nsp_append] at h1
    have h2 := nsp_le [41]
    simp at h2 ⊢
    omega
  · exact h
theorem nsp_commas : ∀ l : List Ex, (∀ x ∈ l, nsp (Ex.txt x) ≤ sumB (Ex.bt x)) → nsp (commas (l.map Ex.txt)) ≤ sumB (commasB (l.map Ex.bt))
  | [], _ => Nat.le_refl _
  | [x], h => h x (by simp)
  | x :: y :: r, h => by
    have ih := nsp_commas (y :: r) fun z hz => h z (by simp only [List.mem_cons] at hz ⊢; exact .inr hz)
    have h1 := h x (by simp)
    show nsp (Ex.txt x ++ (44 :: 32 :: commas ((y :: r).map Ex.txt))) ≤ sumB (Ex.bt x ++ (sg [44] :: commasB ((y :: r).map Ex.bt)))
    have h2 := nsp_cons_le 44 (32 :: commas ((y :: r).map Ex.txt))
    rw [nsp_cons 32 _ rfl] at h2
    rw [nsp_append, sumB_append, sumB_cons, sg_len]
    simp only [List.length_cons, List.length_nil]
    omega
theorem leaf_txt {d : Nd} (h : d.op = 1 ∨ d.op = 2) (hv : vOk d = true) (hn : nmOk d = true) (ts : List (Int × List UInt8)) : txtF d ts = (leafB d).2.1 := by
  unfold txtF leafB
  by_cases h1 : d.op = 1
  · rw [if_pos h1, if_pos h1]
    obtain ⟨_, ⟨hk, g0, g1, hs⟩ | ⟨hk, g, hs⟩ | ⟨hk, g, g1, g2⟩⟩ := con_nd h1 hv hn
    · rw [if_pos hk, hk]; rfl
    · rw [if_neg (by omega), if_pos hk, hk]; rfl
    · rw [if_neg (by omega), if_neg (by omega), hk]; rfl
  · rw [if_neg h1, if_pos (by omega), if_neg h1]; rfl
theorem op_len (op : Int) : (opB op).2.1.length = (signF op).length := by rw [op_s]
theorem nsp_txt : ∀ x : Ex, x.okN → nsp (Ex.txt x) ≤ sumB (Ex.bt x) := by
  refine Ex.ind fun d l ih => ?_
  intro hok
  obtain ⟨h0, hl⟩ := (okN_mk d l).1 hok
  obtain ⟨ho1, ho2, ha, hv, hn⟩ := node_ok h0
  have ih' : ∀ x ∈ l, nsp (Ex.txt x) ≤ sumB (Ex.bt x) := fun x hx => ih x hx (hl x hx)
  have hsg := nsp_le (signF d.op)
  rw [txt_mk, bt_mk]
  unfold btF
  by_cases hlf : d.op = 1 ∨ d.op = 2
  · rw [if_pos hlf, leaf_txt hlf hv hn, sumB_cons, sumB_nil]; have := nsp_le (leafB d).2.1; omega
  rw [if_neg hlf]
  have e1 : (txtL l).map (·.2) = l.map Ex.txt := by rw [txtL_map, List.map_map]; rfl
  have e2 : (btL l).map (·.2) = l.map Ex.bt := by rw [btL_map, List.map_map]; rfl
  unfold txtF
  rw [if_neg (by omega), if_neg (by omega)]
  by_cases h6 : precF d.op = 6
  · rw [if_pos h6, if_pos h6, e1, e2, nsp_append, sumB_cons, sumB_cons, sumB_append, sumB_cons, sumB_nil, op_len, sg_len, sg_len]
    have h1 := nsp_cons_le 40 (commas (l.map Ex.txt) ++ [41])
    rw [nsp_append] at h1
    have h2 := nsp_le [41]
    have h3 := nsp_commas l ih'
    simp only [List.length_cons, List.length_nil] at h2 ⊢
    omega
  rw [if_neg h6, if_neg h6]
  by_cases h5 : precF d.op = 5
  · rw [if_pos h5, if_pos h5]
    have h34 : d.op = 3 ∨ d.op = 4 := by
      obtain h | h | h | h | h | h | h | h | h | h | h | h | h | h | h | h := ops (by omega : 3 ≤ d.op) (by omega)
      all_goals rw [h] at h5 ⊢
      all_goals first | decide | (exfalso; revert h5; decide)
    obtain ⟨x, rfl⟩ : ∃ x, l = [x] := by
      have : l.length = 1 := by rw [ha]; unfold arity; rcases h34 with h | h <;> rw [h] <;> rfl
      exact List.length_eq_one_iff.1 this
    have hb := nsp_br (p := 5) (op := x.d.op) (ih' x (by simp))
    rw [txtL_cons, btL_cons, sumB_cons, op_len]
    show nsp (if d.op = 4 then signF d.op ++ (32 :: br 5 (x.d.op, Ex.txt x)) else signF d.op ++ br 5 (x.d.op, Ex.txt x)) ≤ _ + sumB (brB 5 (x.d.op, Ex.bt x))
    split
    · rw [nsp_append, nsp_cons 32 _ rfl]; omega
    · rw [nsp_append]; omega
  · have h34 : d.op ≠ 3 ∧ d.op ≠ 4 ∧ d.op ≠ 17 ∧ d.op ≠ 18 := by
      refine ⟨?_, ?_, ?_, ?_⟩
      · intro h; rw [h] at h5; exact h5 (by decide)
      · intro h; rw [h] at h5; exact h5 (by decide)
      · intro h; rw [h] at h6; exact h6 (by decide)
      · intro h; rw [h] at h6; exact h6 (by decide)
    rw [if_neg h5, if_neg h34.2.1, if_neg h5]
    obtain ⟨x, y, rfl⟩ : ∃ x y, l = [x, y] := by
      have : l.length = 2 := by rw [ha]; unfold arity; rw [if_neg (by omega), if_neg (by omega), if_neg (by omega)]
      exact len2 this
    have hx := nsp_br (p := leftF d.op) (op := x.d.op) (ih' x (by simp))
    have hy := nsp_br (p := precF d.op + 1) (op := y.d.op) (ih' y (by simp))
    rw [txtL_cons, btL_cons, txtL_cons, btL_cons]
    show nsp (br (leftF d.op) (x.d.op, Ex.txt x) ++ (32 :: (signF d.op ++ (32 :: br (precF d.op + 1) (y.d.op, Ex.txt y))))) ≤ sumB (brB (leftF d.op) (x.d.op, Ex.bt x) ++ (opB d.op :: brB (precF d.op + 1) (y.d.op, Ex.bt y)))
    rw [nsp_append, nsp_cons 32 _ rfl, nsp_append, nsp_cons 32 _ rfl, sumB_append, sumB_cons, op_len]
    omega

/-! ### What a token is worth -/
def Wt (t : Tk) : Prop := (t.kind = 1 → t.vk = 1 ∧ (Lib.itoa t.n).length ≤ t.s.length) ∧ (t.kind = 3 → t.vk = 3 ∧ (quoteL t.t).length ≤ t.s.length)
theorem dec_lt : ∀ (l : List UInt8) (acc u : Nat), Lib.decFrom acc l = some u → u < (acc + 1) * 10 ^ l.length
  | [], acc, u, h => by simp [Lib.decFrom] at h; subst h; simp
  | b :: r, acc, u, h => by
    unfold Lib.decFrom at h
    cases hd : Lib.digitVal b with
    | none => rw [hd] at h; cases h
    | some d =>
      rw [hd] at h
      have ih := dec_lt r _ u h
      have hd9 := (Lib.digitVal_eq hd)
      have hd' : d ≤ 9 := by omega
      rw [List.length_cons, Nat.pow_succ]
      have h1 : (acc * 10 + d + 1) * 10 ^ r.length ≤ ((acc + 1) * 10) * 10 ^ r.length := Nat.mul_le_mul_right _ (by omega)
      have h2 : (acc + 1) * (10 ^ r.length * 10) = ((acc + 1) * 10) * 10 ^ r.length := by rw [Nat.mul_comm (10 ^ r.length) 10, Nat.mul_assoc]
      omega
theorem nd_le : ∀ (k u : Nat), u < 10 ^ (k + 1) → Lib.nDigits u ≤ k + 1
  | 0, u, h => by rw [Lib.nDigits_small (by simpa using h)]; exact Nat.le_refl _
  | k + 1, u, h => by
    by_cases g : u < 10
    · rw [Lib.nDigits_small g]; omega
    · rw [Lib.nDigits_big g]
      have := nd_le k (u / 10) (by rw [Nat.pow_succ] at h; omega)
      omega
theorem itoa_le {d : List UInt8} {n : Int} (hd : d.all digB = true) (h : Lib.atoiAll d = .ok n) (hn : n ≤ 1099511627776) : (Lib.itoa n).length ≤ d.length := by
  rcases Nat.lt_or_ge 18 d.length with hl | hl
  · rcases Int.lt_or_le n (-1099511627776) with g | g
    · exfalso
      cases d with
      | nil => simp at hl
      | cons c r =>
        rw [List.all_cons, Bool.and_eq_true] at hd
        have hc : 48 ≤ c.toNat := by have := hd.1; unfold digB at this; simp only [Bool.and_eq_true, decide_eq_true_eq] at this; exact this.1
        unfold Lib.atoiAll at h
        simp only at h
        rw [if_neg (by omega : ¬ (c.toNat = 43 ∨ c.toNat = 45))] at h
        cases hp : Lib.parseMag (c :: r) with
        | «syntax» => rw [hp] at h; cases h
        | range => rw [hp] at h; cases h
        | ok u =>
          rw [hp] at h
          simp only at h
          split at h
          · cases h
          · split at h
            · cases h
            · rw [if_neg (by omega)] at h; injection h with h; omega
    · have := itoa_short n g hn; omega
  · rw [Lib.atoiAll_short d hl] at h
    cases d with
    | nil => simp [Lib.atoi, Lib.NumEnd.ofOption] at h
    | cons c r =>
      rw [List.all_cons, Bool.and_eq_true] at hd
      have hc : 48 ≤ c.toNat := by have := hd.1; unfold digB at this; simp only [Bool.and_eq_true, decide_eq_true_eq] at this; exact this.1
      have h45 : (c == 45) = false := by rw [beq_eq_false_iff_ne]; intro e; subst e; exact absurd hc (by decide)
      have h43 : (c == 43) = false := by rw [beq_eq_false_iff_ne]; intro e; subst e; exact absurd hc (by decide)
      have ha : Lib.atoi (c :: r) = (Lib.decFrom 0 (c :: r)).map fun (m : Nat) => (m : Int) := by
        show (if c == 45 then _ else if c == 43 then _ else (Lib.decNat (c :: r)).map fun (m : Nat) => (m : Int)) = _
        rw [h45, h43]; rfl
      rw [ha] at h
      cases hu : Lib.decFrom 0 (c :: r) with
      | none => rw [hu] at h; simp [Lib.NumEnd.ofOption] at h
      | some u =>
        rw [hu] at h
        simp [Lib.NumEnd.ofOption] at h
        have h1 := dec_lt _ _ _ hu
        rw [Nat.zero_add, Nat.one_mul, List.length_cons] at h1
        have h2 := nd_le _ _ h1
        have e : Lib.itoa n = Lib.decDigits u := by unfold Lib.itoa; rw [if_neg (by omega)]; congr 1; omega
        rw [e, Lib.decDigits_length, List.length_cons]; exact h2
theorem quoF_worth : ∀ (l : List UInt8) (m : Nat) (t : List UInt8), quoF l = some (m, t) → (escL t).length + 1 ≤ m
  | [], m, t, h => by simp [quoF] at h
  | [c], m, t, h => by
    unfold quoF at h
    split at h
    · simp only [Option.some.injEq, Prod.mk.injEq] at h; obtain ⟨rfl, rfl⟩ := h; simp [escL]
    · cases h
  | c :: d :: r, m, t, h => by
    unfold quoF at h
    split at h
    · simp only [Option.some.injEq, Prod.mk.injEq] at h; obtain ⟨rfl, rfl⟩ := h; simp [escL]
    · rename_i h34
      split at h
      · cases h
      · split at h
        · split at h
          · obtain ⟨⟨m', t'⟩, h', hx⟩ := Option.map_eq_some_iff.1 h
            simp only [Prod.mk.injEq] at hx; obtain ⟨rfl, rfl⟩ := hx
            have := quoF_worth r m' t' h'
            have he : escL (d :: t') = (if d = 34 ∨ d = 92 then [92, d] else [d]) ++ escL t' := by unfold escL; rw [List.flatMap_cons]
            rw [he, List.length_append]
            split <;> simp <;> omega
          · cases h
        · rename_i h92
          obtain ⟨⟨m', t'⟩, h', hx⟩ := Option.map_eq_some_iff.1 h
          simp only [Prod.mk.injEq] at hx; obtain ⟨rfl, rfl⟩ := hx
          have := quoF_worth (d :: r) m' t' h'
          have he : escL (c :: t') = (if c = 34 ∨ c = 92 then [92, c] else [c]) ++ escL t' := by unfold escL; rw [List.flatMap_cons]
          rw [he, List.length_append, if_neg (fun g => g.elim h34 h92)]
          simp; omega
theorem tw_allp (p : UInt8 → Bool) : ∀ l : List UInt8, (l.takeWhile p).all p = true
  | [] => rfl
  | c :: l => by
    rw [List.takeWhile_cons]
    split
    · rename_i h; rw [List.all_cons, h, tw_allp p l]; rfl
    · rfl
theorem head_worth {c : UInt8} {r : List UInt8} {T : Tok} (p : Nat) (h : firstF (c :: r) = .tok T) : Wt (mk T p (c :: r)) := by
  have hl := first_len h
  have hsl : (mk T p (c :: r)).s.length = T.len := by show ((c :: r).take T.len).length = _; rw [List.length_take]; omega
  rw [first_cons] at h
  unfold Wt
  rw [hsl]
  show (T.kind = 1 → T.vk = 1 ∧ (Lib.itoa T.n).length ≤ T.len) ∧ (T.kind = 3 → T.vk = 3 ∧ (quoteL T.t).length ≤ T.len)
  split at h
  · unfold numT at h
    split at h
    · cases h
    · split at h
      · rename_i n hn
        split at h
        · cases h
        · injection h with h; subst h
          rename_i hn2
          exact ⟨fun _ => ⟨rfl, itoa_le (n := n) (tw_allp _ _) hn (by omega)⟩, fun g => absurd g (by show ¬ (1 : Int) = 3; decide)⟩
      · cases h
  · split at h
    · obtain ⟨rfl, _⟩ := wordT_tok h
      exact ⟨fun g => absurd g (by show ¬ (2 : Int) = 1; decide), fun g => absurd g (by show ¬ (2 : Int) = 3; decide)⟩
    · split at h
      · obtain ⟨m, u, h1, h2, rfl⟩ := quoT_tok h
        have := quoF_worth _ _ _ h1
        refine ⟨fun g => absurd g (by show ¬ (3 : Int) = 1; decide), fun _ => ⟨rfl, ?_⟩⟩
        unfold quoteL; simp; omega
      · have hT : T.kind = 4 := by
          unfold sgnT at h
          split at h
          · injection h with h; subst h; rfl
          · split at h
            · injection h with h; subst h; rfl
            · cases h
        exact ⟨fun g => by omega, fun g => by omega⟩
def sumT (ts : List Tk) : Nat := (ts.map fun t => t.s.length).sum
theorem sumT_cons (t : Tk) (ts : List Tk) : sumT (t :: ts) = t.s.length + sumT ts := by simp [sumT]
theorem tok_worth (l : List UInt8) (p : Nat) : ∀ ts, tokens l p = .ok ts → (∀ t ∈ ts, Wt t) ∧ sumT ts ≤ l.length := by
  refine tokens_ind (M := fun l p r => ∀ ts, r = .ok ts → (∀ t ∈ ts, Wt t) ∧ sumT ts ≤ l.length) ?_ ?_ ?_ ?_ l.length l p (Nat.le_refl _)
  · intro p ts h; injection h with h; subst h; exact ⟨fun t ht => by simp at ht, Nat.le_refl _⟩
  · intro r p ih ts h
    obtain ⟨h1, h2⟩ := ih ts h
    exact ⟨h1, by simp; omega⟩
  · intro c r p e _ _ ts h; cases h
  · intro c r p T hc hT ih ts h
    cases hr : tokens ((c :: r).drop T.len) (p + T.len) with
    | bad q e => rw [hr] at h; cases h
    | ok us =>
      rw [hr] at h
      injection h with h; subst h
      obtain ⟨h1, h2⟩ := ih us hr
      have hl := first_len hT
      refine ⟨fun t ht => ?_, ?_⟩
      · rcases List.mem_cons.1 ht with rfl | ht
        · exact head_worth p hT
        · exact h1 t ht
      · have hsl : (mk T p (c :: r)).s.length = T.len := by show ((c :: r).take T.len).length = _; rw [List.length_take]; omega
        rw [sumT_cons, hsl]
        rw [List.length_drop] at h2
        omega

/-! ### What is read is no shorter than its notation -/
def W (q : Nat) (x : Ex) : Nat := sumB (brB (q : Int) (x.d.op, Ex.bt x))
def C (l : List Ex) : Nat := (l.map fun x => sumB (Ex.bt x) + 1).sum
theorem C_append (a b : List Ex) : C (a ++ b) = C a + C b := by simp [C]
theorem C_one (x : Ex) : C [x] = sumB (Ex.bt x) + 1 := by simp [C]
theorem W_mono {q q' : Nat} (h : q ≤ q') (x : Ex) : W q x ≤ W q' x := by
  unfold W; rw [sumB_br, sumB_br]
  split
  · rw [if_pos (by omega)]; exact Nat.le_refl _
  · omega
theorem W_base (q : Nat) (x : Ex) : sumB (Ex.bt x) ≤ W q x ∧ W q x ≤ sumB (Ex.bt x) + 2 := by
  unfold W; rw [sumB_br]; split <;> omega
theorem prec_nonneg (op : Nat) (h : op < 19) : 0 ≤ precF (op : Int) := by
  obtain rfl | rfl | rfl | h3 : op = 0 ∨ op = 1 ∨ op = 2 ∨ 3 ≤ op := by omega
  · decide
  · decide
  · decide
  · obtain h' | h' | h' | h' | h' | h' | h' | h' | h' | h' | h' | h' | h' | h' | h' | h' := opsN h3 h
    all_goals subst h'; decide
theorem opAt_some {q op : Nat} {s : List UInt8} (h : opAt q s = some op) : 3 ≤ op ∧ op < 19 ∧ precF (op : Int) = (q : Int) ∧ signF (op : Int) = s := by
  unfold opAt at h
  have h1 := List.find?_some h
  have h2 := List.mem_of_find?_eq_some h
  rw [List.mem_range] at h2
  simp only [Bool.and_eq_true, decide_eq_true_eq] at h1
  exact ⟨h1.1.1, h2, h1.1.2, h1.2⟩
theorem bt_two {op q : Nat} {x y : Ex} (h3 : 3 ≤ op) (hp : precF (op : Int) = (q : Int)) (hq : q < 5) : sumB (Ex.bt (opN op [x, y])) = W (if q = 2 then 3 else q) x + (signF (op : Int)).length + W (q + 1) y := by
  unfold opN
  rw [bt_mk]
  unfold btF
  rw [if_neg (by simp only; omega), if_neg (by simp only; omega), if_neg (by simp only; omega), btL_cons, btL_cons]
  show sumB (brB (leftF (op : Int)) (x.d.op, Ex.bt x) ++ (opB (op : Int) :: brB (precF (op : Int) + 1) (y.d.op, Ex.bt y))) = _
  rw [sumB_append, sumB_cons, op_len]
  have e : leftF (op : Int) = ((if q = 2 then 3 else q : Nat) : Int) := by
    unfold leftF; rw [hp]
    split
    · rename_i h; rw [if_pos (by omega)]; omega
    · rename_i h; rw [if_neg (by omega)]
  rw [e, hp]
  unfold W
  have e2 : ((q : Int) + 1) = ((q + 1 : Nat) : Int) := by omega
  rw [e2]; omega
theorem W_two {op q : Nat} {x y : Ex} (h3 : 3 ≤ op) (hp : precF (op : Int) = (q : Int)) (hq : q < 5) : W q (opN op [x, y]) = W (if q = 2 then 3 else q) x + (signF (op : Int)).length + W (q + 1) y := by
  rw [← bt_two h3 hp hq]
  unfold W; rw [sumB_br, if_neg]
  · omega
  · show ¬ precF (op : Int) < _; omega
theorem W_one {op : Nat} {x : Ex} (h3 : 3 ≤ op) (hp : precF (op : Int) = 5) : W 5 (opN op [x]) = (signF (op : Int)).length + W 5 x := by
  unfold W; rw [sumB_br, if_neg (by show ¬ precF (op : Int) < _; omega)]
  unfold opN
  rw [bt_mk]
  unfold btF
  rw [if_neg (by simp only; omega), if_neg (by simp only; omega), if_pos (by simp only; omega), btL_cons]
  show sumB (opB (op : Int) :: brB 5 (x.d.op, Ex.bt x)) + 0 = _
  rw [sumB_cons, op_len]; rfl
theorem commas_sum : ∀ l : List Ex, l ≠ [] → sumB (commasB (l.map Ex.bt)) + 1 = C l
  | [], h => absurd rfl h
  | [x], _ => by rw [C_one]; rfl
  | x :: y :: r, _ => by
    have ih := commas_sum (y :: r) (by simp)
    have e : C (x :: y :: r) = sumB (Ex.bt x) + 1 + C (y :: r) := by
      show C ([x] ++ (y :: r)) = _; rw [C_append, C_one]
    rw [e, ← ih]
    show sumB (Ex.bt x ++ (sg [44] :: commasB ((y :: r).map Ex.bt))) + 1 = _
    rw [sumB_append, sumB_cons, sg_len]
    simp only [List.length_cons, List.length_nil]; omega
theorem W_call {op : Nat} {l : List Ex} (h3 : 3 ≤ op) (hp : precF (op : Int) = 6) (hl : l ≠ []) : W 5 (opN op l) = (signF (op : Int)).length + 1 + C l := by
  have hc := commas_sum l hl
  unfold W; rw [sumB_br, if_neg (by show ¬ precF (op : Int) < _; omega)]
  unfold opN
  rw [bt_mk]
  unfold btF
  have hb2 : (btL l).map (·.2) = l.map Ex.bt := by rw [btL_map, List.map_map]; rfl
  rw [if_neg (by simp only; omega), if_pos (by simp only; omega), hb2]
  rw [sumB_cons, sumB_cons, sumB_append, sumB_cons, sumB_nil, sg_len, sg_len]
  show (opB (op : Int)).2.1.length + _ + 0 = _
  rw [op_len]
  simp only [List.length_cons, List.length_nil]; omega
theorem leaf_W {t : Tk} {x : Ex} (hw : Wt t) (h : leafN t = some x) : W 5 x ≤ t.s.length := by
  unfold leafN at h
  have one : ∀ d : Nd, (d.op = 1 ∨ d.op = 2) → (leafB d).2.1.length ≤ t.s.length → W 5 (.mk d []) ≤ t.s.length := fun d hd hle => by
    unfold W; rw [sumB_br, if_neg (by show ¬ precF d.op < _; rcases hd with h | h <;> rw [h] <;> decide), bt_mk]
    unfold btF
    rw [if_pos hd, sumB_cons, sumB_nil]; omega
  split at h
  · rename_i hk
    injection h with h; subst h
    refine one _ (.inl rfl) ?_
    rcases hk with hk | hk
    · obtain ⟨h1, h2⟩ := hw.1 hk
      unfold leafB; rw [if_pos rfl, if_pos h1]; exact h2
    · obtain ⟨h1, h2⟩ := hw.2 hk
      unfold leafB; rw [if_pos rfl, if_neg (by simp only; omega), if_neg (by simp only; omega)]; exact h2
  · split at h
    · rename_i hs
      injection h with h; subst h
      refine one _ (.inl rfl) ?_
      rw [hs]; decide
    · split at h
      · rename_i hs
        injection h with h; subst h
        refine one _ (.inl rfl) ?_
        rw [hs]; decide
      · split at h
        · injection h with h; subst h
          refine one _ (.inr rfl) ?_
          show t.s.toArray.toList.length ≤ _
          simp
        · cases h
/-- What a reading is worth. -/
def Good : Job → List Tk → List Ex → List Tk → Prop
  | .form q, ts, L, r => ∃ x, L = [x] ∧ W q x + sumT r ≤ sumT ts
  | .loop q x, ts, L, r => ∃ y, L = [y] ∧ W q y + sumT r ≤ W (if q = 2 then 3 else q) x + sumT ts
  | .list n acc, ts, L, r => L ≠ [] ∧ C L + sumT r ≤ C acc + sumT ts
def Low : Job → Prop
  | .form q => q ≤ 5
  | .loop q _ => q ≤ 4
  | .list _ _ => True
theorem next_sum {s : List UInt8} {r : List Tk} (h : isNext s r = true) : sumT r = s.length + sumT r.tail ∧ ∀ t ∈ r.tail, t ∈ r := by
  cases r with
  | nil => simp [isNext] at h
  | cons t r =>
    simp [isNext] at h
    exact ⟨by rw [sumT_cons, h]; rfl, fun u hu => List.mem_cons_of_mem _ hu⟩
theorem run_worth : ∀ (f : Nat) (j : Job) (ts : List Tk) (L : List Ex) (r : List Tk), Low j → (∀ t ∈ ts, Wt t) → run f j ts = .ok L r → (∀ t ∈ r, t ∈ ts) ∧ Good j ts L r
  | 0, j, ts, L, r, _, _, h => by simp [run] at h
  | f + 1, .form q, ts, L, r, hq, hw, h => by
    have hq : q ≤ 5 := hq
    unfold run at h
    split at h
    · rename_i h5
      subst h5
      cases ts with
      | nil => cases h
      | cons t r0 =>
        simp only at h
        have hw0 : ∀ u ∈ r0, Wt u := fun u hu => hw u (List.mem_cons_of_mem _ hu)
        split at h
        · rename_i op hop
          obtain ⟨h3, h19, hp, hs⟩ := opAt_some hop
          cases hr : run f (.form 5) r0 with
          | bad _ => rw [hr] at h; cases h
          | tired => rw [hr] at h; cases h
          | ok L' r' =>
            rw [hr] at h
            simp only [wrap, Out.ok.injEq] at h
            obtain ⟨rfl, rfl⟩ := h
            obtain ⟨hm, x, rfl, hx⟩ := run_worth f (.form 5) _ _ _ (Nat.le_refl 5) hw0 hr
            refine ⟨fun u hu => List.mem_cons_of_mem _ (hm u hu), _, rfl, ?_⟩
            rw [W_one h3 hp, hs, sumT_cons]; omega
        · split at h
          · rename_i hpar
            obtain ⟨hm, hne, hC⟩ := run_worth f (.list 1 []) _ _ _ trivial hw0 h
            cases f with
            | zero => simp [run] at h
            | succ f =>
              unfold run at h
              cases hr : run f (.form 0) r0 with
              | bad _ => rw [hr] at h; cases h
              | tired => rw [hr] at h; cases h
              | ok L' r' =>
                rw [hr] at h
                cases L' with
                | nil => simp at h; exact absurd h.1 hne
                | cons x L' =>
                  simp only [List.length_nil, Nat.zero_add, Nat.lt_irrefl, if_false, List.nil_append] at h
                  split at h
                  · simp only [Out.ok.injEq] at h
                    obtain ⟨rfl, rfl⟩ := h
                    refine ⟨fun u hu => List.mem_cons_of_mem _ (hm u hu), x, rfl, ?_⟩
                    rw [C_one] at hC
                    have := (W_base 5 x).2
                    rw [sumT_cons, hpar]
                    simp only [List.length_cons, List.length_nil]
                    have e0 : C [] = 0 := rfl
                    omega
                  · cases h
          · split at h
            · rename_i op hop
              obtain ⟨h3, h19, hp, hs⟩ := opAt_some hop
              split at h
              · rename_i hnx
                obtain ⟨hn1, hn2⟩ := next_sum hnx
                cases hr : run f (.list (arity op) []) r0.tail with
                | bad _ => rw [hr] at h; cases h
                | tired => rw [hr] at h; cases h
                | ok L' r' =>
                  rw [hr] at h
                  simp only [wrap, Out.ok.injEq] at h
                  obtain ⟨rfl, rfl⟩ := h
                  obtain ⟨hm, hne, hC⟩ := run_worth f (.list (arity op) []) _ _ _ trivial (fun u hu => hw0 u (hn2 u hu)) hr
                  refine ⟨fun u hu => List.mem_cons_of_mem _ (hn2 u (hm u hu)), _, rfl, ?_⟩
                  rw [W_call h3 hp hne, hs, sumT_cons, hn1]
                  simp only [List.length_cons, List.length_nil]
                  have e0 : C [] = 0 := rfl
                  omega
              · cases h
            · split at h
              · rename_i x hx
                simp only [Out.ok.injEq] at h
                obtain ⟨rfl, rfl⟩ := h
                have := leaf_W (hw t (by simp)) hx
                exact ⟨fun u hu => List.mem_cons_of_mem _ hu, x, rfl, by rw [sumT_cons]; omega⟩
              · cases h
    · rename_i h5
      cases hr : run f (.form (q + 1)) ts with
      | bad _ => rw [hr] at h; cases h
      | tired => rw [hr] at h; cases h
      | ok L' r' =>
        rw [hr] at h
        obtain ⟨hm, x, rfl, hx⟩ := run_worth f (.form (q + 1)) _ _ _ (show q + 1 ≤ 5 by omega) hw hr
        simp only at h
        obtain ⟨hm2, y, rfl, hy⟩ := run_worth f (.loop q x) _ _ _ (show q ≤ 4 by omega) (fun u hu => hw u (hm u hu)) h
        refine ⟨fun u hu => hm u (hm2 u hu), y, rfl, ?_⟩
        have : W (if q = 2 then 3 else q) x ≤ W (q + 1) x := W_mono (by split <;> omega) x
        omega
  | f + 1, .loop q x, ts, L, r, hq, hw, h => by
    have hq : q ≤ 4 := hq
    have hWx : W q x ≤ W (if q = 2 then 3 else q) x := W_mono (by split <;> omega) x
    unfold run at h
    cases ts with
    | nil =>
      simp only [Out.ok.injEq] at h
      obtain ⟨rfl, rfl⟩ := h
      exact ⟨fun u hu => hu, x, rfl, by omega⟩
    | cons t r0 =>
      simp only at h
      have hw0 : ∀ u ∈ r0, Wt u := fun u hu => hw u (List.mem_cons_of_mem _ hu)
      split at h
      · simp only [Out.ok.injEq] at h
        obtain ⟨rfl, rfl⟩ := h
        exact ⟨fun u hu => hu, x, rfl, by omega⟩
      · rename_i op hop
        obtain ⟨h3, h19, hp, hs⟩ := opAt_some hop
        cases hr : run f (.form (q + 1)) r0 with
        | bad _ => rw [hr] at h; cases h
        | tired => rw [hr] at h; cases h
        | ok L' r' =>
          rw [hr] at h
          obtain ⟨hm, y, rfl, hy⟩ := run_worth f (.form (q + 1)) _ _ _ (show q + 1 ≤ 5 by omega) hw0 hr
          simp only at h
          have hW2 := W_two (x := x) (y := y) h3 hp (by omega)
          rw [hs] at hW2
          split at h
          · rename_i h2
            simp only [Out.ok.injEq] at h
            obtain ⟨rfl, rfl⟩ := h
            refine ⟨fun u hu => List.mem_cons_of_mem _ (hm u hu), _, rfl, ?_⟩
            rw [sumT_cons]; omega
          · rename_i h2
            obtain ⟨hm2, z, rfl, hz⟩ := run_worth f (.loop q (opN op [x, y])) _ _ _ (show q ≤ 4 by omega) (fun u hu => hw0 u (hm u hu)) h
            refine ⟨fun u hu => List.mem_cons_of_mem _ (hm u (hm2 u hu)), z, rfl, ?_⟩
            rw [if_neg h2] at hz hW2 ⊢
            rw [sumT_cons]; omega
  | f + 1, .list n acc, ts, L, r, _, hw, h => by
    unfold run at h
    cases hr : run f (.form 0) ts with
    | bad _ => rw [hr] at h; cases h
    | tired => rw [hr] at h; cases h
    | ok L' r' =>
      rw [hr] at h
      obtain ⟨hm, x, rfl, hx⟩ := run_worth f (.form 0) _ _ _ (Nat.zero_le 5) hw hr
      have hb := (W_base 0 x).1
      simp only at h
      split at h
      · split at h
        · rename_i hnx
          obtain ⟨hn1, hn2⟩ := next_sum hnx
          obtain ⟨hm2, hne, hC⟩ := run_worth f (.list n (acc ++ [x])) _ _ _ trivial (fun u hu => hw u (hm u (hn2 u hu))) h
          refine ⟨fun u hu => hm u (hn2 u (hm2 u hu)), hne, ?_⟩
          rw [C_append, C_one] at hC
          simp only [List.length_cons, List.length_nil] at hn1
          omega
        · cases h
      · split at h
        · rename_i hnx
          obtain ⟨hn1, hn2⟩ := next_sum hnx
          simp only [Out.ok.injEq] at h
          obtain ⟨rfl, rfl⟩ := h
          refine ⟨fun u hu => hm u (hn2 u hu), by simp, ?_⟩
          rw [C_append, C_one]
          simp only [List.length_cons, List.length_nil] at hn1
          omega
        · cases h
/-- A formula's notation is no longer than what it was read from, but for blanks. -/
theorem read_len {l : List UInt8} {ts : List Tk} {x : Ex} {r : List Tk} (ht : tokens l 0 = .ok ts) (he : Ev (.form 0) ts (.ok [x] r)) (hok : x.okN) : nsp (Ex.txt x) ≤ l.length := by
  obtain ⟨hw, hs⟩ := tok_worth l 0 ts ht
  obtain ⟨_, f, hf⟩ := he
  obtain ⟨_, y, e, hy⟩ := run_worth f (.form 0) _ _ _ (Nat.zero_le 5) hw (hf f (Nat.le_refl _))
  injection e with e _
  subst e
  have h1 := nsp_txt x hok
  have h2 := (W_base 0 x).1
  omega
end Go.Proofs.YtjjchbafobcofaaGreatDoor.PbN
