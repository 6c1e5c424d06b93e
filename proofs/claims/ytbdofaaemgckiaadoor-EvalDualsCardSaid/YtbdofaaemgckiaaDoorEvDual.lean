/- Plain mathematics: De Morgan, and the order of two values the other way round. No program is named here. -/
import Derived.Test.YtbdofaaemgckiaaDoorEvMath
namespace Go.Proofs.YtbdofaaemgckiaaDoor.EvD
open Go.Lib
open NumM ValM ExM NmM TyM StrM EvM

def notV (v : Vl) : Vl := opV 4 [v]
theorem not_fault {v : Vl} (h : v.k = 5) : notV v = v := by
  unfold notV opV; rw [show firstK 5 [v] = some v by rw [firstK, if_pos h]]
theorem not_pend {v : Vl} (h : v.k = 4) : notV v = v := by
  unfold notV opV
  rw [show firstK 5 [v] = none by rw [firstK, if_neg (by omega)]; rfl, show firstK 4 [v] = some v by rw [firstK, if_pos h]]
theorem not_other {v : Vl} (h : v.k = 1 ∨ v.k = 3) : notV v = flt 9 := by
  unfold notV opV
  rw [show firstK 5 [v] = none by rw [firstK, if_neg (by omega)]; rfl, show firstK 4 [v] = none by rw [firstK, if_neg (by omega)]; rfl]
  show resV (compR 4 v v) = flt 9
  unfold compR notR
  rw [if_neg (by decide), if_pos rfl, if_neg (by omega)]; rfl
theorem not_tru (b : Bool) : notV (tru b) = tru !b := by cases b <;> rfl
theorem tru_or {v : Vl} (h : v.ok) (hk : v.k = 2) : ∃ b, v = tru b := by
  obtain ⟨k, n, s⟩ := v
  have hk : k = 2 := hk
  subst hk
  rcases ok_cases h with g | ⟨_, g, g2⟩ | g | g | g
  · exact absurd (show (2 : Int) = 1 from g.1) (by decide)
  · have e2 : s = ⟨#[]⟩ := g2
    have e1 : n = 0 ∨ n = 1 := g
    clear g g2 h
    subst e2
    rcases e1 with rfl | rfl
    · exact ⟨false, rfl⟩
    · exact ⟨true, rfl⟩
  · exact absurd (show (2 : Int) = 3 from g.1) (by decide)
  · exact absurd (show (2 : Int) = 4 from g.1) (by decide)
  · exact absurd (show (2 : Int) = 5 from g.1) (by decide)
theorem con_two (b : Bool) (p q : Vl) : conV b [p, q] = if p.k = 2 ∧ p.n = bitI b then condV q else condV p := rfl
theorem cond_id {v : Vl} (h : v.k ≠ 1) (h2 : v.k ≠ 3) : condV v = v := by unfold condV; rw [if_neg (by omega)]
theorem cond_flt {v : Vl} (h : v.k = 1 ∨ v.k = 3) : condV v = flt 9 := by unfold condV; rw [if_pos h]
/-- De Morgan. -/
theorem duals {p q : Vl} (hp : p.ok) (hq : q.ok) : notV (conV true [p, q]) = conV false [notV p, notV q] := by
  rw [con_two, con_two]
  have kp := ok_kind hp
  have kq := ok_kind hq
  by_cases p2 : p.k = 2
  · obtain ⟨b, rfl⟩ := tru_or hp p2
    rw [not_tru]
    cases b
    · rw [if_neg (by decide), cond_id (by decide) (by decide), not_tru, if_neg (by decide), cond_id (by decide) (by decide)]
    · rw [if_pos ⟨rfl, rfl⟩, if_pos ⟨rfl, rfl⟩]
      by_cases q2 : q.k = 2
      · obtain ⟨c, rfl⟩ := tru_or hq q2
        cases c <;> rfl
      · by_cases q4 : q.k = 1 ∨ q.k = 3
        · rw [cond_flt q4, not_other q4, cond_id (by decide) (by decide)]; rfl
        · rw [cond_id (by omega) (by omega)]
          have : q.k = 4 ∨ q.k = 5 := by omega
          rcases this with h | h
          · rw [not_pend h, cond_id (by omega) (by omega)]
          · rw [not_fault h, cond_id (by omega) (by omega)]
  · rw [if_neg (fun g => p2 g.1)]
    by_cases p4 : p.k = 1 ∨ p.k = 3
    · rw [cond_flt p4, not_other p4, if_neg (by decide), cond_id (by decide) (by decide)]; rfl
    · rw [cond_id (by omega) (by omega)]
      have : p.k = 4 ∨ p.k = 5 := by omega
      rcases this with h | h
      · rw [not_pend h, if_neg (fun g => p2 g.1), cond_id (by omega) (by omega)]
      · rw [not_fault h, if_neg (fun g => p2 g.1), cond_id (by omega) (by omega)]
theorem int_swap (a b : Int) : compareInt b a = - compareInt a b := by
  rcases int_cases a b with ⟨h, e⟩ | ⟨h, e⟩ | ⟨h, e⟩ <;> rcases int_cases b a with ⟨g, f⟩ | ⟨g, f⟩ | ⟨g, f⟩ <;> omega
theorem ord_swap {a b : Vl} (h : a.k = b.k) : ordVl b a = - ordVl a b := by
  unfold ordVl
  rw [← h]
  split
  · exact cmp_swap _ _
  · exact int_swap _ _
theorem pend_eq {v : Vl} (h : v.ok) (hk : v.k = 4) : v = ⟨4, 0, ⟨#[]⟩⟩ := by
  obtain ⟨k, n, s⟩ := v
  have hk : k = 4 := hk
  subst hk
  rcases ok_cases h with g | g | g | ⟨_, g, g2⟩ | g
  · exact absurd (show (4 : Int) = 1 from g.1) (by decide)
  · exact absurd (show (4 : Int) = 2 from g.1) (by decide)
  · exact absurd (show (4 : Int) = 3 from g.1) (by decide)
  · have g : n = 0 := g
    have g2 : s = ⟨#[]⟩ := g2
    rw [g, g2]
  · exact absurd (show (4 : Int) = 5 from g.1) (by decide)
theorem op_a5 (op : Int) {a b : Vl} (h : a.k = 5) : opV op [a, b] = a := by
  unfold opV; rw [show firstK 5 [a, b] = some a by rw [firstK, if_pos h]]
theorem op_b5 (op : Int) {a b : Vl} (h : a.k ≠ 5) (g : b.k = 5) : opV op [a, b] = b := by
  unfold opV; rw [show firstK 5 [a, b] = some b by rw [firstK, if_neg h, firstK, if_pos g]]
theorem n5 {a b : Vl} (h : a.k ≠ 5) (g : b.k ≠ 5) : firstK 5 [a, b] = none := by rw [firstK, if_neg h, firstK, if_neg g]; rfl
theorem op_a4 (op : Int) {a b : Vl} (h : a.k ≠ 5) (g : b.k ≠ 5) (e : a.k = 4) : opV op [a, b] = a := by
  unfold opV; rw [n5 h g, show firstK 4 [a, b] = some a by rw [firstK, if_pos e]]
theorem op_b4 (op : Int) {a b : Vl} (h : a.k ≠ 5) (g : b.k ≠ 5) (e : a.k ≠ 4) (e2 : b.k = 4) : opV op [a, b] = b := by
  unfold opV; rw [n5 h g, show firstK 4 [a, b] = some b by rw [firstK, if_neg e, firstK, if_pos e2]]
theorem op_c (op : Int) {a b : Vl} (h : a.k ≠ 5) (g : b.k ≠ 5) (e : a.k ≠ 4) (e2 : b.k ≠ 4) : opV op [a, b] = resV (compR op a b) := by
  unfold opV; rw [n5 h g, show firstK 4 [a, b] = none by rw [firstK, if_neg e, firstK, if_neg e2]; rfl]; rfl
/-- To be less is not to be at most the other way round; or neither can be known. -/
theorem less_dual {x y : Vl} (hx : x.ok) (hy : y.ok) : opV 11 [x, y] = notV (opV 12 [y, x]) ∨ ((opV 11 [x, y]).k = 5 ∧ (notV (opV 12 [y, x])).k = 5) := by
  by_cases x5 : x.k = 5
  · right
    rw [op_a5 11 x5]
    by_cases y5 : y.k = 5
    · rw [op_a5 12 y5, not_fault y5]; exact ⟨x5, y5⟩
    · rw [op_b5 12 y5 x5, not_fault x5]; exact ⟨x5, x5⟩
  · by_cases y5 : y.k = 5
    · right
      rw [op_b5 11 x5 y5, op_a5 12 y5, not_fault y5]; exact ⟨y5, y5⟩
    · by_cases x4 : x.k = 4
      · left
        rw [op_a4 11 x5 y5 x4]
        by_cases y4 : y.k = 4
        · rw [op_a4 12 y5 x5 y4, not_pend y4, pend_eq hx x4, pend_eq hy y4]
        · rw [op_b4 12 y5 x5 y4 x4, not_pend x4]
      · by_cases y4 : y.k = 4
        · left
          rw [op_b4 11 x5 y5 x4 y4, op_a4 12 y5 x5 y4, not_pend y4]
        · rw [op_c 11 x5 y5 x4 y4, op_c 12 y5 x5 y4 x4]
          have c1 : compR 11 x y = cmpR 11 x y := rfl
          have c2 : compR 12 y x = cmpR 12 y x := rfl
          rw [c1, c2]
          unfold cmpR
          by_cases e : x.k = y.k
          · left
            rw [if_pos e, if_pos e.symm]
            show tru (cmpB 11 (ordVl x y)) = notV (tru (cmpB 12 (ordVl y x)))
            rw [not_tru, ord_swap e]
            congr 1
            show decide (ordVl x y < 0) = !decide (-ordVl x y ≤ 0)
            by_cases g : ordVl x y < 0
            · rw [decide_eq_true g, decide_eq_false (by omega)]; rfl
            · rw [decide_eq_false g, decide_eq_true (by omega)]; rfl
          · right
            rw [if_neg e, if_neg (fun h => e h.symm)]
            exact ⟨rfl, rfl⟩
end Go.Proofs.YtbdofaaemgckiaaDoor.EvD
