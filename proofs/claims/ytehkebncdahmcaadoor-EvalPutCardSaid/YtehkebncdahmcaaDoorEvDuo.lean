/- The statements' own makers of formulas over operators: with, truth, and a reference; rows of formulas. The statements' own pair of formulas of one type, and facts. Plain mathematics: De Morgan, and the order of two values the other way round. No program is named here. Formulas made of two others and what fields are: not, and, or, less, at most; what eval.Of says of them. -/
import Derived.Test.YtehkebncdahmcaaDoorEvKit
import Derived.Test.YtehkebncdahmcaaDoorGenTop
import Derived.Test.YtehkebncdahmcaaDoorEvMath
namespace Go.Proofs.YtehkebncdahmcaaDoor.EvW
open Go.RowKit
open NumM ValM LexM ExM NmM TyM EvM EvP Kit ExL ExP ExV ExN NmG EvC EvO EvF EvG EvE EvK
set_option linter.unusedVariables false

/-! ### Rows of formulas -/
def RowE (w : World) (g : Nat) (es : List El) : Prop := w.heap[g]? = some (.cells (elC es).toArray 26 (0, 0))
theorem RowE.lt {w : World} {g : Nat} {es : List El} (h : RowE w g es) : g < w.heap.size := (Array.getElem?_eq_some_iff.1 h).1
theorem RowE.below {w w' : World} {g : Nat} {es : List El} (h : RowE w g es) (hb : Below w.heap.size w w') : RowE w' g es := (hb.block g h.lt).trans h
def opD (op : Int) : Nd := ⟨op, 0, 0, ⟨#[]⟩, ⟨#[]⟩⟩
theorem is_row {w : World} {g : Nat} {es : List El} (op : Int) (h : RowE w g es) (hl : es.length ≤ maxLen) (hi : ∀ e ∈ es, Is w e.x e.d e.A e.n) : Is w (.mk (opD op) (es.map El.x)) (opD op) (some ⟨g, 0, none⟩) es.length := by
  refine is_mk.2 ⟨rfl, by rw [List.length_map], ⟨hl, Nat.zero_le _, Nat.zero_le _⟩, fun j hj => ?_⟩
  have hj' : j < es.length := by simpa using hj
  have key : ∀ i, i < 6 → w.cell? ⟨g, j * 6 + i, none⟩ = (es[j]).cells[i]? := fun i h6 => by
    unfold RowE at h
    simp only [World.cell?, h, Option.isSome_none, Bool.false_eq_true, if_false]
    rw [List.getElem?_toArray, elC_at es j hj' i h6]
  have e : (⟨g, 0, none⟩ : Addr).add (j * 6) = ⟨g, j * 6, none⟩ := by unfold Addr.add; split <;> simp_all
  refine ⟨⟨g, 0, none⟩, es[j].d, es[j].A, es[j].n, es[j].c, rfl, ?_, ?_⟩
  · rw [e]
    exact ⟨key 0 (by omega), key 1 (by omega), key 2 (by omega), key 3 (by omega), key 4 (by omega), key 5 (by omega)⟩
  · rw [List.getElem_map]; exact hi _ (List.getElem_mem hj')
/-- A formula of one node. -/
def leafEl (d : Nd) : El := ⟨.mk d [], d, none, 0, 0⟩
theorem leaf_is (w : World) (d : Nd) (h1 : d.s.size ≤ maxLen) (h2 : d.nm.size ≤ maxLen) : Is w (.mk d []) d none 0 := is_mk.2 ⟨rfl, rfl, ⟨Nat.zero_le _, h1, h2⟩, fun j hj => absurd hj (by simp)⟩
theorem check_op {op : Int} {l : List Ex} (h3 : 3 ≤ op) (h18 : op ≤ 18) (hl : l.length = arity op) (hok : ∀ x ∈ l, x.okN) (hn : nodesL l ≤ 59) (hd : depthL l ≤ 11) : (Ex.mk (opD op) l).checkE = 0 := by
  rw [checkE_ok (by rw [nodes_mk]; omega) (by rw [depth_mk]; omega)]
  refine (okN_mk _ _).2 ⟨?_, hok⟩
  unfold nodeE opD
  have h1 : ¬ (op < 1 ∨ 18 < op) := by omega
  have hv : vOk ⟨op, 0, 0, ⟨#[]⟩, ⟨#[]⟩⟩ = true := by unfold vOk; rw [if_neg (show ¬ op = 1 by omega)]; rfl
  have hm : nmOk ⟨op, 0, 0, ⟨#[]⟩, ⟨#[]⟩⟩ = true := by unfold nmOk; rw [if_neg (show ¬ op = 2 by omega)]; rfl
  show (if op < 1 ∨ 18 < op then (2 : Int) else if l.length = arity op ∧ _ ∧ _ then 0 else 3) = 0
  rw [if_neg h1, if_pos ⟨hl, hv, hm⟩]
theorem leaf_nodes (d : Nd) : (Ex.mk d []).nodes = 1 ∧ (Ex.mk d []).depth = 1 := by rw [nodes_mk, depth_mk, nodesL_nil, depthL_nil]; exact ⟨rfl, rfl⟩
theorem leaf_ok {d : Nd} (h : nodeE d 0 = 0) : (Ex.mk d []).okN := (okN_mk _ _).2 ⟨h, fun x hx => absurd hx (by simp)⟩
theorem ev_op (fs : List (ByteArray × Vl)) {op : Int} (l : List Ex) (h : op ≠ 1 ∧ op ≠ 2 ∧ op ≠ 15 ∧ op ≠ 16 ∧ op ≠ 17) : Ex.ev fs (.mk (opD op) l) = opV op (l.map (Ex.ev fs)) := by
  rw [ev_mk, evL_map]; unfold evN opD
  show (if op = 1 then _ else if op = 2 then _ else if op = 17 then _ else if op = 15 then _ else if op = 16 then _ else _) = _
  rw [if_neg h.1, if_neg h.2.1, if_neg h.2.2.2.2, if_neg h.2.2.1, if_neg h.2.2.2.1]
end Go.Proofs.YtehkebncdahmcaaDoor.EvW
namespace Go.Proofs.YtehkebncdahmcaaDoor.EvJ
open Go.RowKit
open NumM ValM LexM ExM NmM TyM EvM EvP Kit ExL ExP ExV ExN RawL GenL Gen GenE GenT NmG EvC EvO EvF EvG EvK
set_option linter.unusedVariables false

def TwoOut (kind : Int) (w : World) (e : Ending) (w' : World) : Prop :=
  ∃ (x : Ex) (dx : Nd) (Bx : Option Addr) (mx cx : Nat) (y : Ex) (dy : Nd) (By : Option Addr) (my cy : Nat) (vs : List Fc) (g cap : Nat) (rest : List Value),
    e = .returned (.tuple #[.agg #[.int .i64 dx.op, .int .i64 dx.k, .int .i64 dx.n, .string dx.s, .string dx.nm, .slice Bx mx cx], .agg #[.int .i64 dy.op, .int .i64 dy.k, .int .i64 dy.n, .string dy.s, .string dy.nm, .slice By my cy], .slice (some ⟨g, 0, none⟩) 5 cap]) ∧
    Gn someF 2 kind x ∧ Is w' x dx Bx mx ∧ Gn someF 2 kind y ∧ Is w' y dy By my ∧ Fits5 vs ∧ RowF w' g vs rest ∧ Below w.heap.size w w'
theorem b_gr {G : Nat} {w w1 w2 : World} (h : Below w.heap.size w w1) (g : Gr G w1 w2) (hG : w.heap.size ≤ G) : Below w.heap.size w w2 :=
  ⟨g.os.trans h.os, g.tape.trans h.tape, g.output.trans h.output, Nat.le_trans h.size g.size, fun b hb => (g.block b (Nat.lt_of_lt_of_le hb h.size) (fun e => by injection e; omega)).trans (h.block b hb)⟩

end Go.Proofs.YtehkebncdahmcaaDoor.EvJ
namespace Go.Proofs.YtehkebncdahmcaaDoor.EvD
open Go.Lib
open NumM ValM ExM NmM TyM StrM EvM

def notV (v : Vl) : Vl := opV 4 [v]
theorem not_fault {v : Vl} (h : v.k = 5) : notV v = v := by
  unfold notV opV; rw [show firstK 5 [v] = some v by rw [firstK, if_pos h]]
theorem not_pend {v : Vl} (h : v.k = 4) : notV v = v := by
  unfold notV opV
  rw [show firstK 5 [v] = none by rw [firstK, if_neg (by omega)]; rfl, show firstK 4 [v] = some v by rw [firstK, if_pos h]]
theorem not_other {v : Vl} (h : v.k = 1 ∨ v.k = 3) : notV v = flt 9 := by
  unfold notV opV
  rw [show firstK 5 [v] = none by rw [firstK, if_neg (by omega)]; rfl, show firstK 4 [v] = none by rw [firstK, if_neg (by omega)]; rfl]
  show resV (compR 4 v v) = flt 9
  unfold compR notR
  rw [if_neg (by decide), if_pos rfl, if_neg (by omega)]; rfl
theorem not_tru (b : Bool) : notV (tru b) = tru !b := by cases b <;> rfl
theorem tru_or {v : Vl} (h : v.ok) (hk : v.k = 2) : ∃ b, v = tru b := by
  obtain ⟨k, n, s⟩ := v
  have hk : k = 2 := hk
  subst hk
  rcases ok_cases h with g | ⟨_, g, g2⟩ | g | g | g
  · exact absurd (show (2 : Int) = 1 from g.1) (by decide)
  · have e2 : s = ⟨#[]⟩ := g2
    have e1 : n = 0 ∨ n = 1 := g
    clear g g2 h
    subst e2
    rcases e1 with rfl | rfl
    · exact ⟨false, rfl⟩
    · exact ⟨true, rfl⟩
  · exact absurd (show (2 : Int) = 3 from g.1) (by decide)
  · exact absurd (show (2 : Int) = 4 from g.1) (by decide)
  · exact absurd (show (2 : Int) = 5 from g.1) (by decide)
theorem con_two (b : Bool) (p q : Vl) : conV b [p, q] = if p.k = 2 ∧ p.n = bitI b then condV q else condV p := rfl
theorem cond_id {v : Vl} (h : v.k ≠ 1) (h2 : v.k ≠ 3) : condV v = v := by unfold condV; rw [if_neg (by omega)]
theorem cond_flt {v : Vl} (h : v.k = 1 ∨ v.k = 3) : condV v = flt 9 := by unfold condV; rw [if_pos h]
/-- De Morgan. -/
theorem duals {p q : Vl} (hp : p.ok) (hq : q.ok) : notV (conV true [p, q]) = conV false [notV p, notV q] := by
  rw [con_two, con_two]
  have kp := ok_kind hp
  have kq := ok_kind hq
  by_cases p2 : p.k = 2
  · obtain ⟨b, rfl⟩ := tru_or hp p2
    rw [not_tru]
    cases b
    · rw [if_neg (by decide), cond_id (by decide) (by decide), not_tru, if_neg (by decide), cond_id (by decide) (by decide)]
    · rw [if_pos ⟨rfl, rfl⟩, if_pos ⟨rfl, rfl⟩]
      by_cases q2 : q.k = 2
      · obtain ⟨c, rfl⟩ := tru_or hq q2
        cases c <;> rfl
      · by_cases q4 : q.k = 1 ∨ q.k = 3
        · rw [cond_flt q4, not_other q4, cond_id (by decide) (by decide)]; rfl
        · rw [cond_id (by omega) (by omega)]
          have : q.k = 4 ∨ q.k = 5 := by omega
          rcases this with h | h
          · rw [not_pend h, cond_id (by omega) (by omega)]
          · rw [not_fault h, cond_id (by omega) (by omega)]
  · rw [if_neg (fun g => p2 g.1)]
    by_cases p4 : p.k = 1 ∨ p.k = 3
    · rw [cond_flt p4, not_other p4, if_neg (by decide), cond_id (by decide) (by decide)]; rfl
    · rw [cond_id (by omega) (by omega)]
      have : p.k = 4 ∨ p.k = 5 := by omega
      rcases this with h | h
      · rw [not_pend h, if_neg (fun g => p2 g.1), cond_id (by omega) (by omega)]
      · rw [not_fault h, if_neg (fun g => p2 g.1), cond_id (by omega) (by omega)]
theorem int_swap (a b : Int) : compareInt b a = - compareInt a b := by
  rcases int_cases a b with ⟨h, e⟩ | ⟨h, e⟩ | ⟨h, e⟩ <;> rcases int_cases b a with ⟨g, f⟩ | ⟨g, f⟩ | ⟨g, f⟩ <;> omega
theorem ord_swap {a b : Vl} (h : a.k = b.k) : ordVl b a = - ordVl a b := by
  unfold ordVl
  rw [← h]
  split
  · exact cmp_swap _ _
  · exact int_swap _ _
theorem pend_eq {v : Vl} (h : v.ok) (hk : v.k = 4) : v = ⟨4, 0, ⟨#[]⟩⟩ := by
  obtain ⟨k, n, s⟩ := v
  have hk : k = 4 := hk
  subst hk
  rcases ok_cases h with g | g | g | ⟨_, g, g2⟩ | g
  · exact absurd (show (4 : Int) = 1 from g.1) (by decide)
  · exact absurd (show (4 : Int) = 2 from g.1) (by decide)
  · exact absurd (show (4 : Int) = 3 from g.1) (by decide)
  · have g : n = 0 := g
    have g2 : s = ⟨#[]⟩ := g2
    rw [g, g2]
  · exact absurd (show (4 : Int) = 5 from g.1) (by decide)
theorem op_a5 (op : Int) {a b : Vl} (h : a.k = 5) : opV op [a, b] = a := by
  unfold opV; rw [show firstK 5 [a, b] = some a by rw [firstK, if_pos h]]
theorem op_b5 (op : Int) {a b : Vl} (h : a.k ≠ 5) (g : b.k = 5) : opV op [a, b] = b := by
  unfold opV; rw [show firstK 5 [a, b] = some b by rw [firstK, if_neg h, firstK, if_pos g]]
theorem n5 {a b : Vl} (h : a.k ≠ 5) (g : b.k ≠ 5) : firstK 5 [a, b] = none := by rw [firstK, if_neg h, firstK, if_neg g]; rfl
theorem op_a4 (op : Int) {a b : Vl} (h : a.k ≠ 5) (g : b.k ≠ 5) (e : a.k = 4) : opV op [a, b] = a := by
  unfold opV; rw [n5 h g, show firstK 4 [a, b] = some a by rw [firstK, if_pos e]]
theorem op_b4 (op : Int) {a b : Vl} (h : a.k ≠ 5) (g : b.k ≠ 5) (e : a.k ≠ 4) (e2 : b.k = 4) : opV op [a, b] = b := by
  unfold opV; rw [n5 h g, show firstK 4 [a, b] = some b by rw [firstK, if_neg e, firstK, if_pos e2]]
theorem op_c (op : Int) {a b : Vl} (h : a.k ≠ 5) (g : b.k ≠ 5) (e : a.k ≠ 4) (e2 : b.k ≠ 4) : opV op [a, b] = resV (compR op a b) := by
  unfold opV; rw [n5 h g, show firstK 4 [a, b] = none by rw [firstK, if_neg e, firstK, if_neg e2]; rfl]; rfl
/-- To be less is not to be at most the other way round; or neither can be known. -/
theorem less_dual {x y : Vl} (hx : x.ok) (hy : y.ok) : opV 11 [x, y] = notV (opV 12 [y, x]) ∨ ((opV 11 [x, y]).k = 5 ∧ (notV (opV 12 [y, x])).k = 5) := by
  by_cases x5 : x.k = 5
  · right
    rw [op_a5 11 x5]
    by_cases y5 : y.k = 5
    · rw [op_a5 12 y5, not_fault y5]; exact ⟨x5, y5⟩
    · rw [op_b5 12 y5 x5, not_fault x5]; exact ⟨x5, x5⟩
  · by_cases y5 : y.k = 5
    · right
      rw [op_b5 11 x5 y5, op_a5 12 y5, not_fault y5]; exact ⟨y5, y5⟩
    · by_cases x4 : x.k = 4
      · left
        rw [op_a4 11 x5 y5 x4]
        by_cases y4 : y.k = 4
        · rw [op_a4 12 y5 x5 y4, not_pend y4, pend_eq hx x4, pend_eq hy y4]
        · rw [op_b4 12 y5 x5 y4 x4, not_pend x4]
      · by_cases y4 : y.k = 4
        · left
          rw [op_b4 11 x5 y5 x4 y4, op_a4 12 y5 x5 y4, not_pend y4]
        · rw [op_c 11 x5 y5 x4 y4, op_c 12 y5 x5 y4 x4]
          have c1 : compR 11 x y = cmpR 11 x y := rfl
          have c2 : compR 12 y x = cmpR 12 y x := rfl
          rw [c1, c2]
          unfold cmpR
          by_cases e : x.k = y.k
          · left
            rw [if_pos e, if_pos e.symm]
            show tru (cmpB 11 (ordVl x y)) = notV (tru (cmpB 12 (ordVl y x)))
            rw [not_tru, ord_swap e]
            congr 1
            show decide (ordVl x y < 0) = !decide (-ordVl x y ≤ 0)
            by_cases g : ordVl x y < 0
            · rw [decide_eq_true g, decide_eq_false (by omega)]; rfl
            · rw [decide_eq_false g, decide_eq_true (by omega)]; rfl
          · right
            rw [if_neg e, if_neg (fun h => e h.symm)]
            exact ⟨rfl, rfl⟩
end Go.Proofs.YtehkebncdahmcaaDoor.EvD
namespace Go.Proofs.YtehkebncdahmcaaDoor.EvU
open Go.RowKit
open NumM ValM LexM ExM NmM TyM EvM EvP EvD Kit ExL ExP ExV ExN RawL GenL Gen GenE GenT NmG EvC EvO EvF EvG EvK EvW EvJ
set_option linter.unusedVariables false

structure EOk (V : World) (e : El) (dp nd : Nat) : Prop where
  his : Is V e.x e.d e.A e.n
  ok : e.x.okN
  dep : e.x.depth ≤ dp
  nod : e.x.nodes ≤ nd
theorem EOk.below {V V' : World} {e : El} {dp nd : Nat} (h : EOk V e dp nd) (hb : Below V.heap.size V V') : EOk V' e dp nd := ⟨h.his.below hb, h.ok, h.dep, h.nod⟩
def nodeOf (op : Int) (g : Nat) (es : List El) : El := ⟨.mk (opD op) (es.map El.x), opD op, some ⟨g, 0, none⟩, es.length, es.length⟩
theorem EOk.one {V : World} {e : El} {dp nd op g} (h : EOk V e dp nd) (h3 : 3 ≤ op) (h18 : op ≤ 18) (ha : arity op = 1) (hd : dp ≤ 11) (hn : nd ≤ 59) (hr : RowE V g [e]) : EOk V (nodeOf op g [e]) (dp + 1) (nd + 1) := by
  have hN : (Ex.mk (opD op) [e.x]).nodes ≤ nd + 1 := by
    have := h.nod
    rw [nodes_mk, nodesL_cons, nodesL_nil]; omega
  have hD : (Ex.mk (opD op) [e.x]).depth ≤ dp + 1 := by
    have := h.dep
    rw [depth_mk, depthL_cons, depthL_nil]; omega
  refine ⟨is_row op hr (by show 1 ≤ maxLen; unfold maxLen; simp) (fun x hx => ?_), ?_, hD, hN⟩
  · simp only [List.mem_cons, List.not_mem_nil, or_false] at hx
    subst hx; exact h.his
  · have hc : (Ex.mk (opD op) [e.x]).checkE = 0 := check_op h3 h18 ha.symm (fun x hx => by
      simp only [List.mem_cons, List.not_mem_nil, or_false] at hx
      subst hx; exact h.ok) (by have := h.nod; rw [nodesL_cons, nodesL_nil]; omega) (by have := h.dep; rw [depthL_cons, depthL_nil]; omega)
    rw [checkE_ok (by omega) (by omega)] at hc
    exact hc
theorem EOk.two {V : World} {e f : El} {dp nd op g} (h : EOk V e dp nd) (k : EOk V f dp nd) (h3 : 3 ≤ op) (h18 : op ≤ 18) (ha : arity op = 2) (hd : dp ≤ 11) (hn : nd ≤ 29) (hr : RowE V g [e, f]) : EOk V (nodeOf op g [e, f]) (dp + 1) (nd + nd + 1) := by
  have hN : (Ex.mk (opD op) [e.x, f.x]).nodes ≤ nd + nd + 1 := by
    have := h.nod; have := k.nod
    rw [nodes_mk, nodesL_cons, nodesL_cons, nodesL_nil]; omega
  have hD : (Ex.mk (opD op) [e.x, f.x]).depth ≤ dp + 1 := by
    have := h.dep; have := k.dep
    rw [depth_mk, depthL_cons, depthL_cons, depthL_nil]; omega
  refine ⟨is_row op hr (by show 2 ≤ maxLen; unfold maxLen; simp) (fun x hx => ?_), ?_, hD, hN⟩
  · simp only [List.mem_cons, List.not_mem_nil, or_false] at hx
    rcases hx with rfl | rfl
    · exact h.his
    · exact k.his
  · have hc : (Ex.mk (opD op) [e.x, f.x]).checkE = 0 := check_op h3 h18 ha.symm (fun x hx => by
      simp only [List.mem_cons, List.not_mem_nil, or_false] at hx
      rcases hx with rfl | rfl
      · exact h.ok
      · exact k.ok) (by have := h.nod; have := k.nod; rw [nodesL_cons, nodesL_cons, nodesL_nil]; omega) (by have := h.dep; have := k.dep; rw [depthL_cons, depthL_cons, depthL_nil]; omega)
    rw [checkE_ok (by omega) (by omega)] at hc
    exact hc
def OfAt (V : World) (d : Nd) (A : Option Addr) (n c g cap : Nat) (v : Vl) : Prop :=
  Calls Tryd.prog 5 #[.agg #[.int .i64 d.op, .int .i64 d.k, .int .i64 d.n, .string d.s, .string d.nm, .slice A n c], .slice (some ⟨g, 0, none⟩) 5 cap] V fun e' w' => e' = .returned (.tuple #[.agg #[.int .i64 v.k, .int .i64 v.n, .string v.s], .int .i64 0]) ∧ Below V.heap.size V w'
/-- What stands laid: fields' facts. -/
structure Facts (V : World) (g cap : Nat) (vs : List Fc) (rest : List Value) : Prop where
  fit : Fits5 vs
  row : RowF V g vs rest
  tab : Tab V
theorem Facts.below {V V' : World} {g cap vs rest} (h : Facts V g cap vs rest) (hb : Below V.heap.size V V') : Facts V' g cap vs rest := ⟨h.fit, h.row.below hb, h.tab.below hb⟩
theorem of_el {V : World} {e : El} {dp nd g cap vs rest} (h : EOk V e dp nd) (hd : dp ≤ 12) (hn : nd ≤ 60) (hF : Facts V g cap vs rest) : OfAt V e.d e.A e.n e.c g cap (Ex.ev (fcs vs) e.x) := by
  have h1 := h.dep; have h2 := h.nod
  have hck : e.x.checkE = 0 := by rw [checkE_ok (by omega) (by omega)]; exact h.ok
  have := of_good e.x vs (some ⟨g, 0, none⟩) cap e.d e.A e.n e.c V (by rw [hF.fit.1]; decide) hF.fit.names h.his hF.row.fcs hF.tab hck hF.fit.ok
  rw [hF.fit.1] at this; exact this
theorem ev_not (fs : List (ByteArray × Vl)) (p : Ex) : Ex.ev fs (.mk (opD 4) [p]) = notV (Ex.ev fs p) := ev_op fs [p] (by decide)
theorem ev_and (fs : List (ByteArray × Vl)) (p q : Ex) : Ex.ev fs (.mk (opD 15) [p, q]) = conV true [Ex.ev fs p, Ex.ev fs q] := by
  rw [ev_mk, evL_cons, evL_cons, evL_nil]; rfl
theorem ev_or (fs : List (ByteArray × Vl)) (p q : Ex) : Ex.ev fs (.mk (opD 16) [p, q]) = conV false [Ex.ev fs p, Ex.ev fs q] := by
  rw [ev_mk, evL_cons, evL_cons, evL_nil]; rfl
theorem ev_cmp (fs : List (ByteArray × Vl)) {op : Int} (h : op = 11 ∨ op = 12) (p q : Ex) : Ex.ev fs (.mk (opD op) [p, q]) = opV op [Ex.ev fs p, Ex.ev fs q] := ev_op fs [p, q] (by omega)
section
variable {W : World} {p q : El} {g cap : Nat} {vs : List Fc} {rest : List Value}
theorem not_and (hp : EOk W p 3 13) (hq : EOk W q 3 13) (hF : Facts W g cap vs rest) (V : World) (g1 g2 : Nat) (hV : Below W.heap.size W V) (h1 : RowE V g1 [p, q]) (h2 : RowE V g2 [nodeOf 15 g1 [p, q]]) :
    OfAt V (opD 4) (some ⟨g2, 0, none⟩) 1 1 g cap (notV (conV true [Ex.ev (fcs vs) p.x, Ex.ev (fcs vs) q.x])) := by
  have := of_el (((hp.below hV).two (hq.below hV) (by decide) (by decide) rfl (by decide) (by decide) h1).one (op := 4) (by decide) (by decide) rfl (by decide) (by decide) h2) (by decide) (by decide) (hF.below hV)
  rw [← ev_and, ← ev_not]; exact this
theorem or_not (hp : EOk W p 3 13) (hq : EOk W q 3 13) (hF : Facts W g cap vs rest) (V : World) (g1 g2 g3 : Nat) (hV : Below W.heap.size W V) (h1 : RowE V g1 [p]) (h2 : RowE V g2 [q]) (h3 : RowE V g3 [nodeOf 4 g1 [p], nodeOf 4 g2 [q]]) :
    OfAt V (opD 16) (some ⟨g3, 0, none⟩) 2 2 g cap (conV false [notV (Ex.ev (fcs vs) p.x), notV (Ex.ev (fcs vs) q.x)]) := by
  have := of_el (((hp.below hV).one (op := 4) (by decide) (by decide) rfl (by decide) (by decide) h1).two ((hq.below hV).one (op := 4) (by decide) (by decide) rfl (by decide) (by decide) h2) (op := 16) (by decide) (by decide) rfl (by decide) (by decide) h3) (by decide) (by decide) (hF.below hV)
  rw [← ev_not, ← ev_not, ← ev_or]; exact this
theorem less_of (hp : EOk W p 3 13) (hq : EOk W q 3 13) (hF : Facts W g cap vs rest) (V : World) (g1 : Nat) (hV : Below W.heap.size W V) (h1 : RowE V g1 [p, q]) :
    OfAt V (opD 11) (some ⟨g1, 0, none⟩) 2 2 g cap (opV 11 [Ex.ev (fcs vs) p.x, Ex.ev (fcs vs) q.x]) := by
  have := of_el ((hp.below hV).two (hq.below hV) (op := 11) (by decide) (by decide) rfl (by decide) (by decide) h1) (by decide) (by decide) (hF.below hV)
  rw [← ev_cmp _ (.inl rfl)]; exact this
theorem not_most (hp : EOk W p 3 13) (hq : EOk W q 3 13) (hF : Facts W g cap vs rest) (V : World) (g1 g2 : Nat) (hV : Below W.heap.size W V) (h1 : RowE V g1 [p, q]) (h2 : RowE V g2 [nodeOf 12 g1 [p, q]]) :
    OfAt V (opD 4) (some ⟨g2, 0, none⟩) 1 1 g cap (notV (opV 12 [Ex.ev (fcs vs) p.x, Ex.ev (fcs vs) q.x])) := by
  have := of_el (((hp.below hV).two (hq.below hV) (op := 12) (by decide) (by decide) rfl (by decide) (by decide) h1).one (op := 4) (by decide) (by decide) rfl (by decide) (by decide) h2) (by decide) (by decide) (hF.below hV)
  rw [← ev_cmp _ (.inr rfl), ← ev_not]; exact this
end
theorem el_ok {V : World} {kind : Int} {x : Ex} {d : Nd} {A : Option Addr} {n c : Nat} (h : Gn someF 2 kind x) (hi : Is V x d A n) : EOk V ⟨x, d, A, n, c⟩ 3 13 := by
  have hok := gn_ok someF_nm 2 _ x h
  rw [show nb 2 = 13 from rfl] at hok
  exact ⟨hi, hok.1, hok.2.1, hok.2.2⟩
/-- The four answers, of values that are right. -/
theorem four {fs : List (ByteArray × Vl)} (hf : ∀ f ∈ fs, f.2.ok) {p q x y : Ex} (hp : p.okN) (hq : q.okN) (hx : x.okN) (hy : y.okN) :
    ∃ a c d : Vl, notV (conV true [Ex.ev fs p, Ex.ev fs q]) = a ∧ conV false [notV (Ex.ev fs p), notV (Ex.ev fs q)] = a ∧ opV 11 [Ex.ev fs x, Ex.ev fs y] = c ∧ notV (opV 12 [Ex.ev fs y, Ex.ev fs x]) = d ∧ 0 < a.k ∧ 0 < c.k ∧ (c = d ∨ (c.k = 5 ∧ d.k = 5)) := by
  have ep := ev_ok hf p hp; have eq := ev_ok hf q hq; have ex := ev_ok hf x hx; have ey := ev_ok hf y hy
  refine ⟨_, _, _, rfl, (duals ep eq).symm, rfl, rfl, ?_, ?_, less_dual ex ey⟩
  · have hc : (conV true [Ex.ev fs p, Ex.ev fs q]).ok := by
      rw [con_two]; split
      · exact cond_ok eq
      · exact cond_ok ep
    have := (ok_kind (opV_ok 4 (vs := [conV true [Ex.ev fs p, Ex.ev fs q]]) (fun v hv => by simp only [List.mem_cons, List.not_mem_nil, or_false] at hv; subst hv; exact hc) (by simp))).1
    unfold notV; omega
  · have := (ok_kind (opV_ok 11 (vs := [Ex.ev fs x, Ex.ev fs y]) (fun v hv => by
      simp only [List.mem_cons, List.not_mem_nil, or_false] at hv
      rcases hv with rfl | rfl
      · exact ex
      · exact ey) (by simp))).1
    omega
/-! ### Steps of a region whose order is drawn -/
theorem sz2 (V : World) (o o' : Obj) : ((V.alloc o).alloc o').heap.size = V.heap.size + 1 + 1 := by simp
theorem rowE_alloc {V : World} {g : Nat} {es : List El} (h : RowE V g es) (o : Obj) : RowE (V.alloc o) g es := h.below (b_new _ _)
theorem rowE_drew {V : World} {g : Nat} {es : List El} (h : RowE V g es) : RowE V.drew g es := h
theorem bv_alloc {V : World} {g : Nat} {k n : Int} {s : ByteArray} (h : BV V g k n s) (o : Obj) : BV (V.alloc o) g k n s := h.below (b_new _ _)
theorem bv_drew {V : World} {g : Nat} {k n : Int} {s : ByteArray} (h : BV V g k n s) : BV V.drew g k n s := h
theorem row_at (V : World) (g : Nat) (es : List El) (hg : V.heap.size = g) : RowE (V.alloc (.cells (elC es).toArray 26)) g es := by subst hg; exact World.alloc_heap_new V _
theorem bv_at (V : World) (g : Nat) (hg : V.heap.size = g) : BV (V.alloc (.cells #[.int .i64 0, .int .i64 0, .string ⟨#[]⟩] 23)) g 0 0 ⟨#[]⟩ := by subst hg; exact BV.new V 0 0 ⟨#[]⟩
end Go.Proofs.YtehkebncdahmcaaDoor.EvU
