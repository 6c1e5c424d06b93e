/- Plain mathematics: a printed formula is read as it was (P4.3, P4.4): the parser at its tokens. No program is named here. -/
import Derived.Test.YtbkbhkgkfolalaaGreatDoorPbTok
import Derived.Test.YtbkbhkgkfolalaaGreatDoorPsLex
namespace Go.Proofs.YtbkbhkgkfolalaaGreatDoor.PbP
open ValM LexM ExM ShowM PrM NumM ParseM PbL PsM PbT
set_option linter.unusedVariables false

/-! ### Signs -/
theorem opAt_none {s : List UInt8} (h : ∀ op, 3 ≤ op → op < 19 → (rwP op).1 ≠ s) (m : Nat) : opAt m s = none := by
  unfold opAt
  rw [List.find?_eq_none]
  intro op hop
  rw [List.mem_range] at hop
  simp only [Bool.and_eq_true, decide_eq_true_eq, not_and]
  intro g e
  exact h op g.1 hop e
theorem opsN {op : Nat} (h1 : 3 ≤ op) (h2 : op < 19) : op = 3 ∨ op = 4 ∨ op = 5 ∨ op = 6 ∨ op = 7 ∨ op = 8 ∨ op = 9 ∨ op = 10 ∨ op = 11 ∨ op = 12 ∨ op = 13 ∨ op = 14 ∨ op = 15 ∨ op = 16 ∨ op = 17 ∨ op = 18 := by omega
theorem name_none {s : List UInt8} (h : nameB s = true) (hk : keyB s = false) (m : Nat) : opAt m s = none := by
  refine opAt_none (fun op g1 g2 e => ?_) m
  subst e
  obtain h' | h' | h' | h' | h' | h' | h' | h' | h' | h' | h' | h' | h' | h' | h' | h' := opsN g1 g2
  all_goals subst h'
  all_goals first | exact absurd h (by decide) | exact absurd hk (by decide)
theorem head_none {c : UInt8} {r : List UInt8} (h : digB c = true ∨ c = 34 ∨ c = 116 ∨ c = 102) (m : Nat) : opAt m (c :: r) = none := by
  refine opAt_none (fun op g1 g2 e => ?_) m
  have hc : (rwP op).1.head? = some c := by rw [e]; rfl
  clear e
  obtain h' | h' | h' | h' | h' | h' | h' | h' | h' | h' | h' | h' | h' | h' | h' | h' := opsN g1 g2
  all_goals
    subst h'
    rcases h with h | h | h | h
    · revert hc; show some _ = some c → False; intro hc; injection hc with hc; subst hc; revert h; decide
    · subst h; revert hc; decide
    · subst h; revert hc; decide
    · subst h; revert hc; decide
theorem par_none : (∀ m, opAt m [40] = none) ∧ (∀ m, opAt m [41] = none) ∧ ∀ m, opAt m [44] = none := by
  refine ⟨fun m => opAt_none (fun op g1 g2 e => ?_) m, fun m => opAt_none (fun op g1 g2 e => ?_) m, fun m => opAt_none (fun op g1 g2 e => ?_) m⟩
  all_goals
    obtain h' | h' | h' | h' | h' | h' | h' | h' | h' | h' | h' | h' | h' | h' | h' | h' := opsN g1 g2
    all_goals subst h'; revert e; decide
/-- The sign of an operator of two operands is one of its precedence alone. -/
theorem bin_at {op : Int} (h1 : 5 ≤ op) (h2 : op ≤ 16) : opAt (precF op).toNat (signF op) = some op.toNat ∧ ∀ m, m < 5 → m ≠ (precF op).toNat → opAt m (signF op) = none := by
  obtain h | h | h | h | h | h | h | h | h | h | h | h | h | h | h | h := ops (by omega : 3 ≤ op) (by omega)
  all_goals try omega
  all_goals
    subst h
    refine ⟨by decide, fun m hm hne => ?_⟩
    obtain rfl | rfl | rfl | rfl | rfl : m = 0 ∨ m = 1 ∨ m = 2 ∨ m = 3 ∨ m = 4 := by omega
    all_goals first | decide | exact absurd rfl hne
theorem op_s (op : Int) : (opB op).2.1 = signF op := by unfold opB; split <;> rfl
theorem bare_s {t : Tk} {b : B} (h : t.bare = b) : t.s = b.2.1 := by subst h; rfl

/-! ### What follows -/
def Clear (q : Nat) (r : List Tk) : Prop := ∀ m, q ≤ m → m < 5 → ∀ t r', r = t :: r' → opAt m t.s = none
theorem Clear.mono {q q' : Nat} {r : List Tk} (h : Clear q r) (hq : q ≤ q') : Clear q' r := fun m h1 h2 => h m (by omega) h2
theorem Clear.nil (q : Nat) : Clear q [] := fun _ _ _ _ _ h => by cases h
theorem Clear.of {q : Nat} {t : Tk} {r : List Tk} (h : ∀ m, opAt m t.s = none) : Clear q (t :: r) := fun m _ _ t' r' e => by injection e with e _; subst e; exact h m
def pN (x : Ex) : Nat := min 5 (precF x.d.op).toNat
def topN (x : Ex) : Nat := if 5 ≤ pN x then 5 else if pN x = 2 then 2 else pN x + 1
/-- What a formula's tokens are read to, whatever follows. -/
def Rd (x : Ex) : Prop := ∀ (q : Nat) (ts r : List Tk) (o : Out), ts.map Tk.bare = Ex.bt x → q ≤ pN x → Clear (pN x + 1) r → Ch q (topN x) x r o → Ev (.form q) (ts ++ r) o
theorem top_le (x : Ex) : topN x ≤ 5 ∧ pN x ≤ topN x := by
  have h : pN x ≤ 5 := Nat.min_le_left _ _
  unfold topN
  split
  · omega
  · split <;> omega
theorem ch_clear {q h : Nat} {x : Ex} {r : List Tk} (h5 : h ≤ 5) (hc : Clear q r) : Ch q h x r (.ok [x] r) := chain_none fun p h1 h2 t r' e => hc p h1 (by omega) t r' e
theorem Rd.clear {x : Ex} (h : Rd x) {q : Nat} {ts r : List Tk} (e : ts.map Tk.bare = Ex.bt x) (hq : q ≤ pN x) (hc : Clear q r) : Ev (.form q) (ts ++ r) (.ok [x] r) :=
  h q ts r _ e hq (hc.mono (by omega)) (ch_clear (top_le x).1 hc)
/-- In brackets. -/
theorem Rd.paren {x : Ex} (h : Rd x) {ts r : List Tk} (e : ts.map Tk.bare = sg [40] :: (Ex.bt x ++ [sg [41]])) : Ev (.form 5) (ts ++ r) (.ok [x] r) := by
  obtain ⟨a, us, rfl, ha, hu⟩ := List.map_eq_cons_iff.1 e
  obtain ⟨m, b, rfl, hm, hb⟩ := List.map_eq_append_iff.1 hu
  obtain ⟨b, rfl, hb'⟩ := List.map_eq_singleton_iff.1 hb
  have ea := bare_s ha
  have eb := bare_s hb'
  have e0 : (a :: (m ++ [b]) ++ r) = a :: (m ++ (b :: r)) := by simp
  rw [e0]
  refine ev_paren (by rw [ea]; exact par_none.1 5) ea ?_
  have h1 := h.clear (q := 0) (r := b :: r) hm (Nat.zero_le _) (Clear.of fun k => by rw [eb]; exact par_none.2.1 k)
  exact ev_list_last (acc := []) h1 (by simp) (by simp [isNext, eb]; rfl)
/-- An operand. -/
theorem Rd.operand {x : Ex} (h : Rd x) {q : Nat} {p : Int} (hp : p = (q : Int)) (h5 : q ≤ 5) {ts r : List Tk} (e : ts.map Tk.bare = brB p (x.d.op, Ex.bt x)) (hc : Clear q r) : Ev (.form q) (ts ++ r) (.ok [x] r) := by
  unfold brB at e
  split at e
  · exact form_of_chain h5 (Nat.le_refl _) (h.paren e) (ch_clear (Nat.le_refl _) hc)
  · rename_i hn
    simp only at hn
    exact h.clear e (by unfold pN; omega) hc
/-- A left operand, its operator behind it. -/
theorem Rd.left {x : Ex} (h : Rd x) {q p lf : Nat} {l : Int} (hl : l = (lf : Int)) (hqp : q ≤ p) (hp : p < 5) (hlf : lf = if p = 2 then 3 else p) {ts r : List Tk} {t : Tk} {o : Out} (e : ts.map Tk.bare = brB l (x.d.op, Ex.bt x))
    (hn : ∀ m, m < 5 → m ≠ p → opAt m t.s = none) (hc : Ch q (p + 1) x (t :: r) o) : Ev (.form q) (ts ++ t :: r) o := by
  unfold brB at e
  split at e
  · exact form_of_chain (by omega) (Nat.le_refl _) (h.paren e) (chain_skip hqp hp (fun m h1 h2 => hn m h2 (by omega)) hc)
  · rename_i hb
    simp only at hb
    have hlp : lf ≤ pN x := by
      unfold pN
      split at hlf <;> omega
    have hpp : p ≤ pN x := by split at hlf <;> omega
    have htop : p < topN x := by
      unfold topN
      split
      · omega
      · split
        · split at hlf <;> omega
        · omega
    refine h q ts (t :: r) o e (by omega) (fun m h1 h2 t' r' e' => ?_) (chain_skip hqp htop (fun m h1 h2 => hn m (by have := (top_le x).1; omega) (by omega)) hc)
    injection e' with e' _; subst e'
    exact hn m h2 (by omega)
/-- The arguments of a call. -/
theorem list_ev : ∀ (l : List Ex), (∀ x ∈ l, Rd x) → l ≠ [] → ∀ (acc : List Ex) (ts r : List Tk) (c : Tk) (n : Nat), n = acc.length + l.length → ts.map Tk.bare = commasB (l.map Ex.bt) → c.s = [41] → Ev (.list n acc) (ts ++ c :: r) (.ok (acc ++ l) r)
  | [], _, hne, _, _, _, _, _, _, _, _ => absurd rfl hne
  | [x], hR, _, acc, ts, r, c, n, hn, e, hc => by
    have h1 := (hR x (by simp)).clear (q := 0) (r := c :: r) (show ts.map Tk.bare = Ex.bt x from e) (Nat.zero_le _) (Clear.of fun k => by rw [hc]; exact par_none.2.1 k)
    exact ev_list_last h1 (by simp at hn; omega) (by simp [isNext, hc])
  | x :: y :: l, hR, _, acc, ts, r, c, n, hn, e, hc => by
    obtain ⟨t1, u, rfl, h1, hu⟩ := List.map_eq_append_iff.1 (show ts.map Tk.bare = Ex.bt x ++ (sg [44] :: commasB ((y :: l).map Ex.bt)) from e)
    obtain ⟨k, t2, rfl, hk, h2⟩ := List.map_eq_cons_iff.1 hu
    have ek := bare_s hk
    have g1 := (hR x (by simp)).clear (q := 0) (r := k :: (t2 ++ c :: r)) h1 (Nat.zero_le _) (Clear.of fun j => by rw [ek]; exact par_none.2.2 j)
    have g2 := list_ev (y :: l) (fun z hz => hR z (by simp only [List.mem_cons] at hz ⊢; exact .inr hz)) (by simp) (acc ++ [x]) t2 r c n (by simp at hn ⊢; omega) h2 hc
    have e0 : t1 ++ k :: t2 ++ c :: r = t1 ++ k :: (t2 ++ c :: r) := by simp
    rw [e0]
    have e1 : acc ++ (x :: y :: l) = acc ++ [x] ++ (y :: l) := by simp
    rw [e1]
    exact ev_list_more g1 (by simp at hn; omega) (by simp [isNext, ek]; rfl) g2

/-! ### Every right formula -/
theorem leaf_ev {d : Nd} (h : d.op = 1 ∨ d.op = 2) (hv : vOk d = true) (hn : nmOk d = true) {t : Tk} (e : t.bare = leafB d) (r : List Tk) : Ev (.form 5) (t :: r) (.ok [.mk d []] r) := by
  have ek : t.kind = (leafB d).1 := by rw [← e]; rfl
  have es : t.s = (leafB d).2.1 := by rw [← e]; rfl
  have ev : t.vk = (leafB d).2.2.1 := by rw [← e]; rfl
  have en : t.n = (leafB d).2.2.2.1 := by rw [← e]; rfl
  have et : t.t = (leafB d).2.2.2.2 := by rw [← e]; rfl
  obtain ⟨op, k, n, s, nm⟩ := d
  by_cases h1 : op = 1
  · subst h1
    obtain ⟨hnm, ⟨hk, g0, g1, hs⟩ | ⟨hk, g, hs⟩ | ⟨hk, g, g1, g2⟩⟩ := con_nd rfl hv hn
    · simp only at hnm hk g0 g1 hs; subst hnm hk hs
      have hl : leafB ⟨1, 1, n, ⟨#[]⟩, ⟨#[]⟩⟩ = (1, Lib.itoa n, 1, n, []) := rfl
      rw [hl] at ek es ev en et
      obtain ⟨c, r', hc, g2, g3⟩ := dec_head n.toNat
      have hs : t.s = c :: r' := by rw [es, ← hc]; show Lib.itoa n = _; unfold Lib.itoa; rw [if_neg (by omega)]
      have hd : digB c = true := by unfold digB; simp [g2, g3]
      refine ev_leaf (by rw [hs]; exact head_none (.inl hd) 5) (by rw [hs]; intro g; injection g with g _; subst g; exact absurd hd (by decide)) (by rw [hs]; exact head_none (.inl hd) 6) ?_
      unfold leafN
      rw [if_pos (.inl ek), ev, en, et]
    · simp only at hnm hk g hs; subst hnm hk hs
      have hl : leafB ⟨1, 2, n, ⟨#[]⟩, ⟨#[]⟩⟩ = word (showL 2 n []) := rfl
      rw [hl] at ek es
      have ek : t.kind = 2 := ek
      rcases g with g | g
      · subst g
        have hs : t.s = falseB := es
        refine ev_leaf (by rw [hs]; exact head_none (.inr (.inr (.inr rfl))) 5) (by rw [hs]; decide) (by rw [hs]; exact head_none (.inr (.inr (.inr rfl))) 6) ?_
        unfold leafN
        rw [if_neg (by omega), hs, if_neg (by decide), if_pos rfl]
      · subst g
        have hs : t.s = trueB := es
        refine ev_leaf (by rw [hs]; exact head_none (.inr (.inr (.inl rfl))) 5) (by rw [hs]; decide) (by rw [hs]; exact head_none (.inr (.inr (.inl rfl))) 6) ?_
        unfold leafN
        rw [if_neg (by omega), hs, if_pos rfl]
    · simp only at hnm hk g g1 g2; subst hnm hk g
      have hl : leafB ⟨1, 3, 0, s, ⟨#[]⟩⟩ = (3, quoteL s.data.toList, 3, 0, s.data.toList) := rfl
      rw [hl] at ek es ev en et
      have hs : t.s = 34 :: (escL s.data.toList ++ [34]) := es
      refine ev_leaf (by rw [hs]; exact head_none (.inr (.inl rfl)) 5) (by rw [hs]; intro g; injection g with g _; exact absurd g (by decide)) (by rw [hs]; exact head_none (.inr (.inl rfl)) 6) ?_
      unfold leafN
      rw [if_pos (.inr ek), ev, en, et]
  · have h2 : op = 2 := by simp only at h; omega
    subst h2
    have hv' := hv
    unfold vOk at hv'
    unfold nmOk nmB at hn
    rw [if_neg (by show ¬ (2 : Int) = 1; decide)] at hv'
    rw [if_pos rfl] at hn
    simp only [Bool.and_eq_true, decide_eq_true_eq, Bool.not_eq_true'] at hn hv'
    obtain ⟨⟨⟨_, h10⟩, hnb⟩, hkb⟩ := hn
    obtain ⟨⟨hk0, hn0⟩, hs0⟩ := hv'
    have hs0 := bytes_nil hs0
    subst hk0 hn0 hs0
    have hl : leafB ⟨2, 0, 0, ⟨#[]⟩, nm⟩ = word nm.data.toList := rfl
    rw [hl] at ek es
    have ek : t.kind = 2 := ek
    have es : t.s = nm.data.toList := es
    refine ev_leaf (by rw [es]; exact name_none hnb hkb 5) (by rw [es]; intro g; rw [g] at hnb; exact absurd hnb (by decide)) (by rw [es]; exact name_none hnb hkb 6) ?_
    unfold leafN
    rw [if_neg (by omega), es, if_neg (fun g => by rw [g] at hkb; exact absurd hkb (by decide)), if_neg (fun g => by rw [g] at hkb; exact absurd hkb (by decide)), if_pos ⟨ek, hkb⟩]
theorem p5_of {x : Ex} (h : 5 ≤ precF x.d.op) : pN x = 5 ∧ topN x = 5 := by
  have h1 : pN x = 5 := by unfold pN; omega
  exact ⟨h1, by unfold topN; rw [if_pos (by omega)]⟩
theorem opN_nd {d : Nd} {l : List Ex} (h0 : 0 ≤ d.op) (h : d = ⟨d.op, 0, 0, ⟨#[]⟩, ⟨#[]⟩⟩) : opN d.op.toNat l = .mk d l := by
  unfold opN
  have : ((d.op.toNat : Nat) : Int) = d.op := by omega
  rw [this]
  exact congrArg (fun z => Ex.mk z l) h.symm
theorem rd_all : ∀ x : Ex, x.okN → Rd x := by
  refine Ex.ind fun d l ih => ?_
  intro hok
  obtain ⟨h0, hl⟩ := (okN_mk d l).1 hok
  obtain ⟨ho1, ho2, ha, hv, hn⟩ := node_ok h0
  have ih' : ∀ x ∈ l, Rd x := fun x hx => ih x hx (hl x hx)
  intro q ts r o e hq hcl hch
  rw [bt_mk] at e
  unfold btF at e
  by_cases hlf : d.op = 1 ∨ d.op = 2
  · rw [if_pos hlf] at e
    obtain ⟨t, rfl, ht⟩ := List.map_eq_singleton_iff.1 e
    have hl0 : l = [] := by
      have : l.length = 0 := by rw [ha]; unfold arity; rw [if_pos hlf]
      exact List.length_eq_zero_iff.1 this
    subst hl0
    obtain ⟨p1, p2⟩ := p5_of (x := .mk d []) (by show 5 ≤ precF d.op; rcases hlf with h | h <;> rw [h] <;> decide)
    rw [p2] at hch
    exact form_of_chain (by omega) (Nat.le_refl _) (leaf_ev hlf hv hn ht r) hch
  rw [if_neg hlf] at e
  have hnd := op_nd (by omega) (by omega) hv hn
  have hb2 : (btL l).map (·.2) = l.map Ex.bt := by rw [btL_map, List.map_map]; rfl
  by_cases h6 : precF d.op = 6
  · rw [if_pos h6, hb2] at e
    obtain ⟨t, u, rfl, ht, hu⟩ := List.map_eq_cons_iff.1 e
    obtain ⟨a, u, rfl, hA, hu⟩ := List.map_eq_cons_iff.1 hu
    obtain ⟨m, b, rfl, hm, hb⟩ := List.map_eq_append_iff.1 hu
    obtain ⟨b, rfl, hb'⟩ := List.map_eq_singleton_iff.1 hb
    have et := (bare_s ht).trans (op_s d.op)
    have eA := bare_s hA
    have eb := bare_s hb'
    have h1718 : d.op = 17 ∨ d.op = 18 := by
      obtain h | h | h | h | h | h | h | h | h | h | h | h | h | h | h | h := ops (by omega : 3 ≤ d.op) (by omega)
      all_goals rw [h] at h6 ⊢
      all_goals first | decide | (exfalso; revert h6; decide)
    obtain ⟨p1, p2⟩ := p5_of (x := .mk d l) (by show 5 ≤ precF d.op; omega)
    rw [p2] at hch
    have hsgn : opAt 5 (signF d.op) = none ∧ signF d.op ≠ [40] ∧ opAt 6 (signF d.op) = some d.op.toNat := by
      rcases h1718 with h | h <;> rw [h] <;> decide
    have har : l.length = arity ((d.op.toNat : Nat) : Int) := by rw [ha]; congr 1; omega
    have hne : l ≠ [] := fun g => by rw [g] at ha; rcases h1718 with h | h <;> rw [h] at ha <;> exact absurd ha (by decide)
    have g1 := list_ev l ih' hne [] m r b (arity ((d.op.toNat : Nat) : Int)) (by rw [← har]; simp) hm eb
    have g2 : Ev (.form 5) (t :: (a :: (m ++ b :: r))) (wrap d.op.toNat (.ok ([] ++ l) r)) := ev_call (by rw [et]; exact hsgn.1) (by rw [et]; exact hsgn.2.1) (by rw [et]; exact hsgn.2.2) (by simp [isNext, eA]; rfl) g1
    have e0 : t :: a :: (m ++ [b]) ++ r = t :: (a :: (m ++ b :: r)) := by simp
    rw [e0]
    refine form_of_chain (by omega) (Nat.le_refl _) (x := .mk d l) ?_ hch
    have e3 : wrap d.op.toNat (.ok ([] ++ l) r) = .ok [.mk d l] r := by
      show Out.ok [opN d.op.toNat l] r = _
      rw [opN_nd (by omega) hnd]
    rw [← e3]; exact g2
  rw [if_neg h6] at e
  by_cases h5 : precF d.op = 5
  · rw [if_pos h5] at e
    have h34 : d.op = 3 ∨ d.op = 4 := by
      obtain h | h | h | h | h | h | h | h | h | h | h | h | h | h | h | h := ops (by omega : 3 ≤ d.op) (by omega)
      all_goals rw [h] at h5 ⊢
      all_goals first | decide | (exfalso; revert h5; decide)
    obtain ⟨x, rfl⟩ : ∃ x, l = [x] := by
      have : l.length = 1 := by rw [ha]; unfold arity; rcases h34 with h | h <;> rw [h] <;> rfl
      exact List.length_eq_one_iff.1 this
    rw [btL_cons] at e
    obtain ⟨t, u, rfl, ht, hu⟩ := List.map_eq_cons_iff.1 (show ts.map Tk.bare = opB d.op :: brB 5 (x.d.op, Ex.bt x) from e)
    have et := (bare_s ht).trans (op_s d.op)
    obtain ⟨p1, p2⟩ := p5_of (x := .mk d [x]) (by show 5 ≤ precF d.op; omega)
    rw [p2] at hch
    have g1 := (ih' x (by simp)).operand (q := 5) (p := 5) rfl (Nat.le_refl _) (r := r) hu (fun m h1 h2 => by omega)
    have g2 : Ev (.form 5) (t :: (u ++ r)) (wrap d.op.toNat (.ok [x] r)) := ev_prefix (by rw [et]; rcases h34 with h | h <;> rw [h] <;> decide) g1
    refine form_of_chain (by omega) (Nat.le_refl _) (x := .mk d [x]) ?_ hch
    have e3 : wrap d.op.toNat (.ok [x] r) = .ok [.mk d [x]] r := by
      show Out.ok [opN d.op.toNat [x]] r = _
      rw [opN_nd (by omega) hnd]
    rw [← e3]; exact g2
  · rw [if_neg h5] at e
    have h34 : d.op ≠ 3 ∧ d.op ≠ 4 ∧ d.op ≠ 17 ∧ d.op ≠ 18 := by
      refine ⟨?_, ?_, ?_, ?_⟩
      · intro h; rw [h] at h5; exact h5 (by decide)
      · intro h; rw [h] at h5; exact h5 (by decide)
      · intro h; rw [h] at h6; exact h6 (by decide)
      · intro h; rw [h] at h6; exact h6 (by decide)
    obtain ⟨x, y, rfl⟩ : ∃ x y, l = [x, y] := by
      have : l.length = 2 := by rw [ha]; unfold arity; rw [if_neg (by omega), if_neg (by omega), if_neg (by omega)]
      exact len2 this
    rw [btL_cons, btL_cons] at e
    obtain ⟨t1, u, rfl, h1, hu⟩ := List.map_eq_append_iff.1 (show ts.map Tk.bare = brB (leftF d.op) (x.d.op, Ex.bt x) ++ (opB d.op :: brB (precF d.op + 1) (y.d.op, Ex.bt y)) from e)
    obtain ⟨t, t2, rfl, ht, h2⟩ := List.map_eq_cons_iff.1 hu
    have et := (bare_s ht).trans (op_s d.op)
    obtain ⟨hb1, hb2'⟩ := prec_bin (op := d.op) (by omega) (by omega)
    obtain ⟨hs1, hs2⟩ := bin_at (op := d.op) (by omega) (by omega)
    obtain ⟨p, hp⟩ : ∃ p : Nat, (precF d.op).toNat = p := ⟨_, rfl⟩
    have hpi : precF d.op = (p : Int) := by omega
    rw [hp] at hs1 hs2
    rw [← et] at hs1 hs2
    have hpn : pN (.mk d [x, y]) = p := by show min 5 (precF d.op).toNat = p; rw [hp]; omega
    have htop : topN (.mk d [x, y]) = if p = 2 then p else p + 1 := by
      unfold topN; rw [hpn, if_neg (by omega)]
      split
      · rename_i h; rw [h]
      · rfl
    rw [hpn] at hq hcl
    rw [htop] at hch
    have gy := (ih' y (by simp)).operand (q := p + 1) (p := precF d.op + 1) (by omega) (by omega) (r := r) h2 hcl
    have hop : opN d.op.toNat [x, y] = .mk d [x, y] := opN_nd (by omega) hnd
    have hchain : Ch q (p + 1) x (t :: (t2 ++ r)) o := chain_op hq hs1 gy (by rw [hop]; exact hch)
    have e0 : t1 ++ t :: t2 ++ r = t1 ++ t :: (t2 ++ r) := by simp
    rw [e0]
    refine (ih' x (by simp)).left (lf := if p = 2 then 3 else p) (l := leftF d.op) ?_ hq (by omega) rfl h1 hs2 hchain
    unfold leftF
    rw [hpi]
    split
    · rename_i h; rw [if_pos (by omega)]; omega
    · rename_i h; rw [if_neg (by omega)]
/-- What is printed is read as it was. -/
theorem read_txt {x : Ex} (h : x.okN) (hl : (Ex.txt x).length ≤ 160) : ∃ ts, lexR (Ex.txt x) = (ts, 0, 0) ∧ Ev (.form 0) ts (.ok [x] []) := by
  obtain ⟨ts, e, ht⟩ := tokens_txt h 0
  refine ⟨ts, by rw [lexR_of hl, ht]; rfl, ?_⟩
  have := (rd_all x h).clear (q := 0) (r := []) e (Nat.zero_le _) (Clear.nil 0)
  rw [List.append_nil] at this
  exact this
/-- In brackets, too. -/
theorem read_brackets {x : Ex} (h : x.okN) (hl : (Ex.txt x).length ≤ 154) : ∃ ts, lexR ([32, 40, 32] ++ Ex.txt x ++ [32, 41, 32]) = (ts, 0, 0) ∧ Ev (.form 0) ts (.ok [x] []) := by
  obtain ⟨ts, e, ht⟩ := tokens_brackets h 0
  refine ⟨ts, by rw [lexR_of (by simp; omega), ht]; rfl, ?_⟩
  have := (rd_all x h).paren (r := []) e
  rw [List.append_nil] at this
  exact form_of_chain (Nat.zero_le _) (Nat.le_refl _) this (ch_clear (Nat.le_refl _) (Clear.nil 0))
end Go.Proofs.YtbkbhkgkfolalaaGreatDoor.PbP
