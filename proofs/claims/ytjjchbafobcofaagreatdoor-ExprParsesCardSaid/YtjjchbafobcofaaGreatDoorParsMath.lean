/- Plain mathematics: a formula read from tokens (P4.4), by descent; and by climbing. No program is named here. -/
import Derived.Test.YtjjchbafobcofaaGreatDoorBase
import Derived.Test.YtjjchbafobcofaaGreatDoorNotTab
namespace Go.Proofs.YtjjchbafobcofaaGreatDoor.PsM
open LexM ExM

/-! ### Operators by precedence -/
def rwP (op : Nat) : NotTab.Rw := NotTab.rows.getD op ([], 0, 0)
/-- The operator of a precedence that a token is. -/
def opAt (q : Nat) (s : List UInt8) : Option Nat := (List.range 19).find? fun op => decide (3 ≤ op) && decide ((rwP op).2.1 = (q : Int)) && decide ((rwP op).1 = s)
def opN (op : Nat) (l : List Ex) : Ex := .mk ⟨(op : Int), 0, 0, ⟨#[]⟩, ⟨#[]⟩⟩ l
def trueB : List UInt8 := [116, 114, 117, 101]
def falseB : List UInt8 := [102, 97, 108, 115, 101]
/-- A formula of one token. -/
def leafN (t : Tk) : Option Ex :=
  if t.kind = 1 ∨ t.kind = 3 then some (.mk ⟨1, t.vk, t.n, ⟨t.t.toArray⟩, ⟨#[]⟩⟩ [])
  else if t.s = trueB then some (.mk ⟨1, 2, 1, ⟨#[]⟩, ⟨#[]⟩⟩ [])
  else if t.s = falseB then some (.mk ⟨1, 2, 0, ⟨#[]⟩, ⟨#[]⟩⟩ [])
  else if t.kind = 2 ∧ keyB t.s = false then some (.mk ⟨2, 0, 0, ⟨#[]⟩, ⟨t.s.toArray⟩⟩ [])
  else none

/-! ### Reading by descent -/
/-- What there is to do: a formula of at least a precedence; more operators of it behind a formula; more formulas of a list of n, its bracket open. -/
inductive Job where
  | form (q : Nat)
  | loop (q : Nat) (x : Ex)
  | list (n : Nat) (acc : List Ex)
/-- How it ends: formulas and the tokens that are left; or the tokens from the wrong one on. -/
inductive Out where
  | ok (l : List Ex) (r : List Tk)
  | bad (r : List Tk)
  | tired
def isNext (s : List UInt8) : List Tk → Bool
  | [] => false
  | t :: _ => decide (t.s = s)
def wrap (op : Nat) : Out → Out
  | .ok l r => .ok [opN op l] r
  | o => o
def run : Nat → Job → List Tk → Out
  | 0, _, _ => .tired
  | f + 1, .form q, ts =>
    if q = 5 then
      match ts with
      | [] => .bad []
      | t :: r =>
        match opAt 5 t.s with
        | some op => wrap op (run f (.form 5) r)
        | none =>
          if t.s = [40] then run f (.list 1 []) r
          else match opAt 6 t.s with
            | some op => if isNext [40] r then wrap op (run f (.list (arity op) []) r.tail) else .bad r
            | none => match leafN t with
              | some x => .ok [x] r
              | none => .bad (t :: r)
    else match run f (.form (q + 1)) ts with
      | .ok (x :: _) r => run f (.loop q x) r
      | o => o
  | f + 1, .loop q x, ts =>
    match ts with
    | [] => .ok [x] []
    | t :: r =>
      match opAt q t.s with
      | none => .ok [x] (t :: r)
      | some op => match run f (.form (q + 1)) r with
        | .ok (y :: _) r' => if q = 2 then .ok [opN op [x, y]] r' else run f (.loop q (opN op [x, y])) r'
        | o => o
  | f + 1, .list n acc, ts =>
    match run f (.form 0) ts with
    | .ok (x :: _) r =>
      if acc.length + 1 < n then (if isNext [44] r then run f (.list n (acc ++ [x])) r.tail else .bad r)
      else (if isNext [41] r then .ok (acc ++ [x]) r.tail else .bad r)
    | o => o

/-- It comes to this end, however much it may take. -/
def Ev (j : Job) (ts : List Tk) (o : Out) : Prop := o ≠ .tired ∧ ∃ f0, ∀ f, f0 ≤ f → run f j ts = o
theorem Ev.unique {j : Job} {ts : List Tk} {o o' : Out} (h : Ev j ts o) (h' : Ev j ts o') : o = o' := by
  obtain ⟨_, f, hf⟩ := h
  obtain ⟨_, g, hg⟩ := h'
  rw [← hf (max f g) (Nat.le_max_left _ _), hg (max f g) (Nat.le_max_right _ _)]
/-- One step more. -/
theorem Ev.step {j : Job} {ts : List Tk} {o : Out} {f0 : Nat} (h0 : o ≠ .tired) (h : ∀ f, f0 ≤ f → run (f + 1) j ts = o) : Ev j ts o :=
  ⟨h0, f0 + 1, fun f hf => by
    obtain ⟨g, rfl⟩ : ∃ g, f = g + 1 := ⟨f - 1, by omega⟩
    exact h g (by omega)⟩

/-! ### The cases -/
theorem ev_end : Ev (.form 5) [] (.bad []) := Ev.step (f0 := 0) (by simp) fun f _ => by simp [run]
theorem ev_prefix {t : Tk} {r : List Tk} {op : Nat} {o : Out} (h : opAt 5 t.s = some op) (hr : Ev (.form 5) r o) : Ev (.form 5) (t :: r) (wrap op o) := by
  obtain ⟨h0, g, hg⟩ := hr
  refine Ev.step (f0 := g) (by cases o <;> simp_all [wrap]) fun f hf => ?_
  simp only [run, if_pos, h, hg f hf]
theorem ev_paren {t : Tk} {r : List Tk} {o : Out} (h : opAt 5 t.s = none) (hp : t.s = [40]) (hr : Ev (.list 1 []) r o) : Ev (.form 5) (t :: r) o := by
  obtain ⟨h0, g, hg⟩ := hr
  rw [hp] at h
  refine Ev.step (f0 := g) h0 fun f hf => ?_
  simp only [run, if_pos, hp, h, hg f hf]
theorem ev_call {t : Tk} {r : List Tk} {op : Nat} {o : Out} (h : opAt 5 t.s = none) (hp : t.s ≠ [40]) (h6 : opAt 6 t.s = some op) (hn : isNext [40] r = true) (hr : Ev (.list (arity op) []) r.tail o) : Ev (.form 5) (t :: r) (wrap op o) := by
  obtain ⟨h0, g, hg⟩ := hr
  refine Ev.step (f0 := g) (by cases o <;> simp_all [wrap]) fun f hf => ?_
  simp only [run, if_pos, h, if_neg hp, h6, hn, hg f hf]
theorem ev_call_bad {t : Tk} {r : List Tk} {op : Nat} (h : opAt 5 t.s = none) (hp : t.s ≠ [40]) (h6 : opAt 6 t.s = some op) (hn : isNext [40] r = false) : Ev (.form 5) (t :: r) (.bad r) :=
  Ev.step (f0 := 0) (by simp) fun f _ => by simp [run, h, hp, h6, hn]
theorem ev_leaf {t : Tk} {r : List Tk} {x : Ex} (h : opAt 5 t.s = none) (hp : t.s ≠ [40]) (h6 : opAt 6 t.s = none) (hl : leafN t = some x) : Ev (.form 5) (t :: r) (.ok [x] r) :=
  Ev.step (f0 := 0) (by simp) fun f _ => by simp [run, h, hp, h6, hl]
theorem ev_leaf_bad {t : Tk} {r : List Tk} (h : opAt 5 t.s = none) (hp : t.s ≠ [40]) (h6 : opAt 6 t.s = none) (hl : leafN t = none) : Ev (.form 5) (t :: r) (.bad (t :: r)) :=
  Ev.step (f0 := 0) (by simp) fun f _ => by simp [run, h, hp, h6, hl]
theorem ev_form {q : Nat} {ts r : List Tk} {x : Ex} {o : Out} (hq : q ≠ 5) (h1 : Ev (.form (q + 1)) ts (.ok [x] r)) (h2 : Ev (.loop q x) r o) : Ev (.form q) ts o := by
  obtain ⟨_, g1, hg1⟩ := h1
  obtain ⟨h0, g2, hg2⟩ := h2
  refine Ev.step (f0 := max g1 g2) h0 fun f hf => ?_
  simp only [run, if_neg hq, hg1 f (by omega), hg2 f (by omega)]
theorem ev_form_bad {q : Nat} {ts r : List Tk} (hq : q ≠ 5) (h1 : Ev (.form (q + 1)) ts (.bad r)) : Ev (.form q) ts (.bad r) := by
  obtain ⟨_, g1, hg1⟩ := h1
  refine Ev.step (f0 := g1) (by simp) fun f hf => ?_
  simp only [run, if_neg hq, hg1 f (by omega)]
theorem ev_loop_end {q : Nat} {x : Ex} : Ev (.loop q x) [] (.ok [x] []) := Ev.step (f0 := 0) (by simp) fun f _ => by simp [run]
theorem ev_loop_none {q : Nat} {x : Ex} {t : Tk} {r : List Tk} (h : opAt q t.s = none) : Ev (.loop q x) (t :: r) (.ok [x] (t :: r)) := Ev.step (f0 := 0) (by simp) fun f _ => by simp [run, h]
theorem ev_loop_once {x y : Ex} {t : Tk} {r r' : List Tk} {op : Nat} (h : opAt 2 t.s = some op) (h1 : Ev (.form 3) r (.ok [y] r')) : Ev (.loop 2 x) (t :: r) (.ok [opN op [x, y]] r') := by
  obtain ⟨_, g1, hg1⟩ := h1
  refine Ev.step (f0 := g1) (by simp) fun f hf => ?_
  simp only [run, h, hg1 f (by omega), if_pos]
theorem ev_loop_more {q : Nat} {x y : Ex} {t : Tk} {r r' : List Tk} {op : Nat} {o : Out} (hq : q ≠ 2) (h : opAt q t.s = some op) (h1 : Ev (.form (q + 1)) r (.ok [y] r')) (h2 : Ev (.loop q (opN op [x, y])) r' o) : Ev (.loop q x) (t :: r) o := by
  obtain ⟨_, g1, hg1⟩ := h1
  obtain ⟨h0, g2, hg2⟩ := h2
  refine Ev.step (f0 := max g1 g2) h0 fun f hf => ?_
  simp only [run, h, hg1 f (by omega), if_neg hq, hg2 f (by omega)]
theorem ev_loop_bad {q : Nat} {x : Ex} {t : Tk} {r r' : List Tk} {op : Nat} (h : opAt q t.s = some op) (h1 : Ev (.form (q + 1)) r (.bad r')) : Ev (.loop q x) (t :: r) (.bad r') := by
  obtain ⟨_, g1, hg1⟩ := h1
  refine Ev.step (f0 := g1) (by simp) fun f hf => ?_
  simp only [run, h, hg1 f (by omega)]
theorem ev_list_more {n : Nat} {acc : List Ex} {ts r : List Tk} {x : Ex} {o : Out} (h1 : Ev (.form 0) ts (.ok [x] r)) (hn : acc.length + 1 < n) (hc : isNext [44] r = true) (h2 : Ev (.list n (acc ++ [x])) r.tail o) : Ev (.list n acc) ts o := by
  obtain ⟨_, g1, hg1⟩ := h1
  obtain ⟨h0, g2, hg2⟩ := h2
  refine Ev.step (f0 := max g1 g2) h0 fun f hf => ?_
  simp only [run, hg1 f (by omega), if_pos hn, hc, if_true, hg2 f (by omega)]
theorem ev_list_more_bad {n : Nat} {acc : List Ex} {ts r : List Tk} {x : Ex} (h1 : Ev (.form 0) ts (.ok [x] r)) (hn : acc.length + 1 < n) (hc : isNext [44] r = false) : Ev (.list n acc) ts (.bad r) := by
  obtain ⟨_, g1, hg1⟩ := h1
  refine Ev.step (f0 := g1) (by simp) fun f hf => ?_
  simp [run, hg1 f (by omega), hn, hc]
theorem ev_list_last {n : Nat} {acc : List Ex} {ts r : List Tk} {x : Ex} (h1 : Ev (.form 0) ts (.ok [x] r)) (hn : ¬ acc.length + 1 < n) (hc : isNext [41] r = true) : Ev (.list n acc) ts (.ok (acc ++ [x]) r.tail) := by
  obtain ⟨_, g1, hg1⟩ := h1
  refine Ev.step (f0 := g1) (by simp) fun f hf => ?_
  simp [run, hg1 f (by omega), hn, hc]
theorem ev_list_last_bad {n : Nat} {acc : List Ex} {ts r : List Tk} {x : Ex} (h1 : Ev (.form 0) ts (.ok [x] r)) (hn : ¬ acc.length + 1 < n) (hc : isNext [41] r = false) : Ev (.list n acc) ts (.bad r) := by
  obtain ⟨_, g1, hg1⟩ := h1
  refine Ev.step (f0 := g1) (by simp) fun f hf => ?_
  simp [run, hg1 f (by omega), hn, hc]
theorem ev_list_bad {n : Nat} {acc : List Ex} {ts r : List Tk} (h1 : Ev (.form 0) ts (.bad r)) : Ev (.list n acc) ts (.bad r) := by
  obtain ⟨_, g1, hg1⟩ := h1
  refine Ev.step (f0 := g1) (by simp) fun f hf => ?_
  simp only [run, hg1 f (by omega)]

/-! ### Climbing: the operators from a precedence down to another, behind a formula -/
/-- What follows an operand: the loops of the precedences h - 1, .., q. -/
inductive Ch (q : Nat) : Nat → Ex → List Tk → Out → Prop where
  | stop {h : Nat} {x : Ex} {ts : List Tk} (hq : h ≤ q) : Ch q h x ts (.ok [x] ts)
  | next {h : Nat} {x y : Ex} {ts r : List Tk} {o : Out} (hq : q ≤ h) (h1 : Ev (.loop h x) ts (.ok [y] r)) (h2 : Ch q h y r o) : Ch q (h + 1) x ts o
  | bad {h : Nat} {x : Ex} {ts r : List Tk} (hq : q ≤ h) (h1 : Ev (.loop h x) ts (.bad r)) : Ch q (h + 1) x ts (.bad r)
theorem form_bad {q h : Nat} (hq : q ≤ h) (h5 : h ≤ 5) {ts r : List Tk} (h2 : Ev (.form h) ts (.bad r)) : Ev (.form q) ts (.bad r) := by
  induction h with
  | zero =>
    have : q = 0 := by omega
    subst this; exact h2
  | succ h ih =>
    rcases Nat.lt_or_ge q (h + 1) with g | g
    · exact ih (by omega) (by omega) (ev_form_bad (by omega) h2)
    · have : q = h + 1 := by omega
      subst this; exact h2
/-- A formula of at least a precedence is one of a higher precedence, and what follows. -/
theorem form_of_chain {q h : Nat} (hq : q ≤ h) (h5 : h ≤ 5) {ts : List Tk} {x : Ex} {r : List Tk} (h1 : Ev (.form h) ts (.ok [x] r)) {o : Out} (hc : Ch q h x r o) : Ev (.form q) ts o := by
  induction h generalizing x r o with
  | zero =>
    have : q = 0 := by omega
    subst this
    cases hc with
    | stop _ => exact h1
  | succ h ih =>
    cases hc with
    | stop hle =>
      have : q = h + 1 := by omega
      subst this; exact h1
    | next hle hl hr => exact ih hle (by omega) (ev_form (by omega) h1 hl) hr
    | bad hle hl =>
      have h2 : Ev (.form h) ts (.bad _) := ev_form (by omega) h1 hl
      exact form_bad hle (by omega) h2
/-- Where no operator of these precedences comes next, nothing follows. -/
theorem chain_none {q h : Nat} {x : Ex} {ts : List Tk} (hn : ∀ p, q ≤ p → p < h → ∀ t r, ts = t :: r → opAt p t.s = none) : Ch q h x ts (.ok [x] ts) := by
  induction h with
  | zero => exact .stop (Nat.zero_le _)
  | succ h ih =>
    rcases Nat.lt_or_ge h q with g | g
    · exact .stop g
    · refine .next g ?_ (ih fun p h1 h2 => hn p h1 (by omega))
      cases ts with
      | nil => exact ev_loop_end
      | cons t r => exact ev_loop_none (hn h g (by omega) t r rfl)
/-- Precedences at which no operator comes next are passed. -/
theorem chain_skip {q p h : Nat} {x : Ex} {t : Tk} {r : List Tk} {o : Out} (hqp : q ≤ p) (hph : p < h) (hn : ∀ m, p < m → m < h → opAt m t.s = none) (hc : Ch q (p + 1) x (t :: r) o) : Ch q h x (t :: r) o := by
  induction h with
  | zero => omega
  | succ h ih =>
    rcases Nat.lt_or_ge p h with g | g
    · exact .next (by omega) (ev_loop_none (hn h g (by omega))) (ih g fun m h1 h2 => hn m h1 (by omega))
    · have : p = h := by omega
      subst this; exact hc
/-- An operator of precedence p, its second operand, and what follows. -/
theorem chain_op {q p : Nat} {x y : Ex} {t : Tk} {r r' : List Tk} {op : Nat} {o : Out} (hqp : q ≤ p) (hop : opAt p t.s = some op) (hy : Ev (.form (p + 1)) r (.ok [y] r')) (hc : Ch q (if p = 2 then p else p + 1) (opN op [x, y]) r' o) : Ch q (p + 1) x (t :: r) o := by
  by_cases h2 : p = 2
  · subst h2
    rw [if_pos rfl] at hc
    exact .next hqp (ev_loop_once hop hy) hc
  · rw [if_neg h2] at hc
    cases hc with
    | stop hle => omega
    | next hle hl hr => exact .next hqp (ev_loop_more h2 hop hy hl) hr
    | bad hle hl => exact .bad hqp (ev_loop_more h2 hop hy hl)
theorem chain_op_bad {q p : Nat} {x : Ex} {t : Tk} {r r' : List Tk} {op : Nat} (hqp : q ≤ p) (hop : opAt p t.s = some op) (hy : Ev (.form (p + 1)) r (.bad r')) : Ch q (p + 1) x (t :: r) (.bad r') :=
  .bad hqp (ev_loop_bad hop hy)
end Go.Proofs.YtjjchbafobcofaaGreatDoor.PsM
