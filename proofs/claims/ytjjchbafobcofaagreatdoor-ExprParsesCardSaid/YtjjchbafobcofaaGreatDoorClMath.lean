/- Plain mathematics: climbing by precedence reads what descent reads (P4.4): one operator after the other. No program is named here. -/
import Derived.Test.YtjjchbafobcofaaGreatDoorPsTot
import Derived.Test.YtjjchbafobcofaaGreatDoorPbAll
namespace Go.Proofs.YtjjchbafobcofaaGreatDoor.ClM
open LexM ExM PsM PrM PsTot PbP PbT PbN
set_option linter.unusedVariables false

theorem ch_total {q h : Nat} (h5 : h ≤ 5) : ∀ (x : Ex) (ts : List Tk), ∃ o, Ch q h x ts o ∧ Shape (ts.length + 1) o := by
  induction h with
  | zero => exact fun x ts => ⟨_, .stop (Nat.zero_le _), .inl ⟨x, ts, rfl, by omega⟩⟩
  | succ h ih =>
    intro x ts
    by_cases hq : h + 1 ≤ q
    · exact ⟨_, .stop hq, .inl ⟨x, ts, rfl, by omega⟩⟩
    · obtain ⟨o, ho, hs⟩ := (done_all ts.length ts (Nat.le_refl _)).2.1 h x (by omega)
      rcases hs with ⟨y, r, rfl, hr⟩ | ⟨r, rfl⟩
      · obtain ⟨o2, h2, hs2⟩ := ih (by omega) y r
        exact ⟨o2, .next (by omega) ho h2, hs2.mono (by omega)⟩
      · exact ⟨_, .bad (by omega) ho, .inr ⟨r, rfl⟩⟩
theorem ch_unique {q h : Nat} {x : Ex} {ts : List Tk} {o : Out} (h1 : Ch q h x ts o) : ∀ {o' : Out}, Ch q h x ts o' → o = o' := by
  induction h1 with
  | stop hq =>
    intro o' h2
    cases h2 with
    | stop _ => rfl
    | next hq' _ _ => omega
    | bad hq' _ => omega
  | next hq hl _ ih =>
    intro o' h2
    cases h2 with
    | stop hq' => omega
    | next _ hl' hr' =>
      have e := hl.unique hl'
      simp only [Out.ok.injEq, List.cons.injEq, and_true] at e
      obtain ⟨rfl, rfl⟩ := e
      exact ih hr'
    | bad _ hl' => have e := hl.unique hl'; cases e
  | bad hq hl =>
    intro o' h2
    cases h2 with
    | stop hq' => omega
    | next _ hl' _ => have e := hl.unique hl'; cases e
    | bad _ hl' => exact hl.unique hl'
theorem form_chain {q : Nat} {ts r : List Tk} {x : Ex} {o : Out} (hq : q ≤ 5) (h5 : Ev (.form 5) ts (.ok [x] r)) (h : Ev (.form q) ts o) : Ch q 5 x r o := by
  obtain ⟨o', h', _⟩ := ch_total (q := q) (Nat.le_refl 5) x r
  rw [h.unique (form_of_chain hq (Nat.le_refl _) h5 h')]; exact h'
theorem form_bad5 {q : Nat} {ts r : List Tk} {o : Out} (hq : q ≤ 5) (h5 : Ev (.form 5) ts (.bad r)) (h : Ev (.form q) ts o) : o = .bad r := h.unique (form_bad hq (Nat.le_refl _) h5)
theorem form_ex (q : Nat) (hq : q ≤ 5) (ts : List Tk) : ∃ o, Ev (.form q) ts o ∧ Shape ts.length o := (done_all ts.length ts (Nat.le_refl _)).1 q hq
theorem list_ex (n : Nat) (acc : List Ex) (ts : List Tk) : ∃ o, Ev (.list n acc) ts o := let ⟨o, h, _⟩ := (done_all ts.length ts (Nat.le_refl _)).2.2 n acc; ⟨o, h⟩

/-! ### The operator that comes next -/
def okOp (q hd : Nat) (s : List UInt8) (j : Nat) : Bool := decide ((rwP j).1 = s) && decide ((q : Int) + 1 ≤ (rwP j).2.1 + 1) && decide ((rwP j).2.1 + 1 < (hd : Int))
def fnd (q hd : Nat) (s : List UInt8) : Nat → Nat
  | 0 => 0
  | j + 1 => if 5 ≤ j ∧ okOp q hd s j = true then j else fnd q hd s j
theorem fnd_low (q hd : Nat) (s : List UInt8) : ∀ n, n ≤ 5 → fnd q hd s n = 0
  | 0, _ => rfl
  | n + 1, h => by rw [fnd, if_neg (by omega), fnd_low q hd s n (by omega)]
theorem fnd_hit {q hd : Nat} {s : List UInt8} {j : Nat} (h5 : 5 ≤ j) (hj : okOp q hd s j = true) : ∀ n, j < n → fnd q hd s n ≠ 0
  | 0, h => by omega
  | n + 1, h => by
    rw [fnd]
    split
    · rename_i g; omega
    · rename_i g
      rcases Nat.lt_or_ge j n with hl | hl
      · exact fnd_hit h5 hj n hl
      · have : j = n := by omega
        subst this; exact absurd ⟨h5, hj⟩ g
theorem fnd_is {q hd : Nat} {s : List UInt8} : ∀ n, fnd q hd s n ≠ 0 → 5 ≤ fnd q hd s n ∧ fnd q hd s n < n ∧ okOp q hd s (fnd q hd s n) = true
  | 0, h => absurd rfl h
  | n + 1, h => by
    rw [fnd] at h ⊢
    split
    · rename_i g; exact ⟨g.1, by omega, g.2⟩
    · rename_i g
      rw [if_neg g] at h
      obtain ⟨h1, h2, h3⟩ := fnd_is n h
      exact ⟨h1, by omega, h3⟩
theorem prec_out {op : Nat} (h3 : 3 ≤ op) (h19 : op < 19) (hp : precF (op : Int) < 5) : 5 ≤ op ∧ op ≤ 16 := by
  obtain h | h | h | h | h | h | h | h | h | h | h | h | h | h | h | h := opsN h3 h19
  all_goals subst h
  all_goals first | (exact ⟨by decide, by decide⟩) | (exfalso; revert hp; decide)
theorem fnd_none {q hd : Nat} {s : List UInt8} (h : fnd q hd s 17 = 0) {p : Nat} (hq : q ≤ p) (hp : p < min 5 (hd - 1)) : opAt p s = none := by
  cases ho : opAt p s with
  | none => rfl
  | some op =>
    exfalso
    obtain ⟨h3, h19, hpp, hs⟩ := opAt_some ho
    obtain ⟨h5, h16⟩ := prec_out h3 h19 (by omega)
    refine fnd_hit (j := op) h5 ?_ 17 (by omega) h
    have e1 : (rwP op).2.1 = (p : Int) := hpp
    have e2 : (rwP op).1 = s := hs
    unfold okOp
    rw [e1, e2]
    simp only [Bool.and_eq_true, decide_eq_true_eq, true_and]
    omega
theorem fnd_some {q hd : Nat} {s : List UInt8} {j : Nat} (h : fnd q hd s 17 = j) (hj : j ≠ 0) : 5 ≤ j ∧ j ≤ 16 ∧ ∃ p : Nat, (rwP j).2.1 = (p : Int) ∧ p < 5 ∧ q ≤ p ∧ p < min 5 (hd - 1) ∧ (rwP j).1 = s ∧ opAt p s = some j ∧ ∀ m, m < 5 → m ≠ p → opAt m s = none := by
  obtain ⟨h1, h2, h3⟩ := fnd_is 17 (by rw [h]; exact hj)
  rw [h] at h1 h2 h3
  unfold okOp at h3
  simp only [Bool.and_eq_true, decide_eq_true_eq] at h3
  obtain ⟨⟨e1, e2⟩, e3⟩ := h3
  obtain ⟨p0, p4⟩ := prec_bin (op := (j : Int)) (by omega) (by omega)
  obtain ⟨b1, b2⟩ := bin_at (op := (j : Int)) (by omega) (by omega)
  have ep : precF (j : Int) = (rwP j).2.1 := rfl
  have es : signF (j : Int) = s := e1
  obtain ⟨p, hp⟩ : ∃ p : Nat, (precF (j : Int)).toNat = p := ⟨_, rfl⟩
  rw [hp, es] at b1 b2
  rw [Int.toNat_natCast] at b1
  exact ⟨h1, by omega, p, by omega, by omega, by omega, by omega, e1, b1, b2⟩
/-- The next token's text: a quote has none. -/
def nxt : List Tk → List UInt8
  | [] => []
  | t :: _ => if t.kind = 3 then [] else t.s
theorem quo_none {t : Tk} {u : List UInt8} (h : t.s = 34 :: u) (m : Nat) : opAt m t.s = none := by rw [h]; exact head_none (.inr (.inl rfl)) m
theorem sign_ne (j : Nat) (h5 : 5 ≤ j) (h16 : j ≤ 16) : (rwP j).1 ≠ [] := by
  obtain h | h | h | h | h | h | h | h | h | h | h | h : j = 5 ∨ j = 6 ∨ j = 7 ∨ j = 8 ∨ j = 9 ∨ j = 10 ∨ j = 11 ∨ j = 12 ∨ j = 13 ∨ j = 14 ∨ j = 15 ∨ j = 16 := by omega
  all_goals subst h; decide
/-- No operator comes. -/
theorem step_none {q hd : Nat} {x : Ex} {ts : List Tk} {o : Out} (hq : ∀ t ∈ ts, t.kind = 3 → ∃ u, t.s = 34 :: u) (hc : Ch q (min 5 (hd - 1)) x ts o) (hf : fnd q hd (nxt ts) 17 = 0) : o = .ok [x] ts := by
  refine ch_unique hc (chain_none fun p h1 h2 t r e => ?_)
  subst e
  by_cases h3 : t.kind = 3
  · obtain ⟨u, hu⟩ := hq t (by simp) h3
    exact quo_none hu p
  · have e : nxt (t :: r) = t.s := if_neg h3
    rw [e] at hf
    exact fnd_none hf h1 h2
/-- An operator comes: what its second operand comes to. -/
theorem step_op {q hd j : Nat} {x : Ex} {ts : List Tk} {o : Out} (hc : Ch q (min 5 (hd - 1)) x ts o) (hf : fnd q hd (nxt ts) 17 = j) (hj : j ≠ 0) :
    ∃ (p : Nat) (t : Tk) (r : List Tk), ts = t :: r ∧ 5 ≤ j ∧ j ≤ 16 ∧ (rwP j).2.1 = (p : Int) ∧ p < 5 ∧ (∀ r', Ev (.form (p + 1)) r (.bad r') → o = .bad r') ∧
      ∀ y r', Ev (.form (p + 1)) r (.ok [y] r') → Ch q (min 5 ((if p = 2 then 3 else p + 2) - 1)) (opN j [x, y]) r' o := by
  obtain ⟨h5, h16, p, hp, p5, hqp, hph, hs, ho, hn⟩ := fnd_some hf hj
  cases ts with
  | nil => exact absurd hs (sign_ne j h5 h16)
  | cons t r =>
    have ht : nxt (t :: r) = t.s := by
      by_cases h3 : t.kind = 3
      · exfalso
        have e : nxt (t :: r) = [] := if_pos h3
        rw [e] at hs
        exact sign_ne j h5 h16 hs
      · exact if_neg h3
    rw [ht] at hs ho hn
    have hskip : ∀ {o'}, Ch q (p + 1) x (t :: r) o' → o = o' := fun h => ch_unique hc (chain_skip hqp hph (fun m h1 h2 => hn m (by omega) (by omega)) h)
    refine ⟨p, t, r, rfl, h5, h16, hp, p5, fun r' h => hskip (chain_op_bad hqp ho h), fun y r' h => ?_⟩
    have e : min 5 ((if p = 2 then 3 else p + 2) - 1) = if p = 2 then p else p + 1 := by split <;> omega
    rw [e]
    obtain ⟨o2, h2, _⟩ := ch_total (q := q) (h := if p = 2 then p else p + 1) (by split <;> omega) (opN j [x, y]) r'
    rw [hskip (chain_op hqp ho h h2)]; exact h2
end Go.Proofs.YtjjchbafobcofaaGreatDoor.ClM
