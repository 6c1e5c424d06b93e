/- Plain mathematics of chapter 8: a formula made less. No program is named here. -/
import Derived.Test.YtehkebncdahmcaaGreatDoorNmMath
import Derived.Test.YtehkebncdahmcaaGreatDoorEvProps
namespace Go.Proofs.YtehkebncdahmcaaGreatDoor.FoM
open Go.Lib
open NumM ValM ExM NmM TyM StrM EvM EvP

/-! ### What is known of a formula that asks for nothing -/
def knV (v : Vl) : Bool := knownB v.k v.n v.s.data.toList
def closedB (x : Ex) : Bool := (Ex.refs x).isEmpty
def conB (x : Ex) : Bool := closedB x && knV (Ex.ev [] x)
def conVl (x : Ex) : Vl := if closedB x = true then Ex.ev [] x else zeroV
theorem closed_nil {x : Ex} : closedB x = true ↔ Ex.refs x = [] := by unfold closedB; rw [List.isEmpty_iff]
theorem conB_iff {x : Ex} : conB x = true ↔ Ex.refs x = [] ∧ knV (Ex.ev [] x) = true := by unfold conB; rw [Bool.and_eq_true, closed_nil]

/-! ### The formula of a value -/
def constN (v : Vl) : Nd := ⟨1, v.k, v.n, v.s, e0⟩
def negN : Nd := ⟨3, 0, 0, e0, e0⟩
def litE (v : Vl) : Ex := if v.k = 1 ∧ v.n < 0 then .mk negN [.mk (constN ⟨v.k, -v.n, v.s⟩) []] else .mk (constN v) []
theorem litE_neg {v : Vl} (h : v.k = 1 ∧ v.n < 0) : litE v = .mk negN [.mk (constN ⟨v.k, -v.n, v.s⟩) []] := by unfold litE; rw [if_pos h]
theorem litE_pos {v : Vl} (h : ¬ (v.k = 1 ∧ v.n < 0)) : litE v = .mk (constN v) [] := by unfold litE; rw [if_neg h]

/-! ### Folding -/
def isBoolE (x : Ex) : Bool := decide (x.d.op = 1) && decide (x.d.k = 2)
def zeroE : Ex := .mk ⟨0, 0, 0, e0, e0⟩ []
def chosenE (l : List Ex) : Ex := if (l.getD 0 zeroE).d.n = 1 then l.getD 1 zeroE else l.getD 2 zeroE
def foN (c : Bool) (v : Vl) (d : Nd) (l : List Ex) : Ex := if c = true then litE v else if d.op = 17 ∧ isBoolE (l.getD 0 zeroE) = true then chosenE l else .mk d l
mutual
def Ex.fold : Ex → Ex | .mk d l => foN (conB (.mk d l)) (Ex.ev [] (.mk d l)) d (foldL l)
def foldL : List Ex → List Ex | [] => [] | x :: l => Ex.fold x :: foldL l
end
theorem foldL_map (l : List Ex) : foldL l = l.map Ex.fold := by
  induction l with
  | nil => simp [foldL]
  | cons x l ih => rw [foldL, ih]; rfl
theorem fold_mk (d : Nd) (l : List Ex) : Ex.fold (.mk d l) = foN (conB (.mk d l)) (Ex.ev [] (.mk d l)) d (l.map Ex.fold) := by rw [Ex.fold, foldL_map]
theorem fold_con {x : Ex} (h : conB x = true) : Ex.fold x = litE (Ex.ev [] x) := by
  cases x; rw [fold_mk]; unfold foN; rw [if_pos h]
theorem fold_if {d : Nd} {l : List Ex} (h : ¬ conB (.mk d l) = true) (h2 : d.op = 17 ∧ isBoolE ((l.map Ex.fold).getD 0 zeroE) = true) : Ex.fold (.mk d l) = chosenE (l.map Ex.fold) := by
  rw [fold_mk]; unfold foN; rw [if_neg h, if_pos h2]
theorem fold_node {d : Nd} {l : List Ex} (h : ¬ conB (.mk d l) = true) (h2 : ¬ (d.op = 17 ∧ isBoolE ((l.map Ex.fold).getD 0 zeroE) = true)) : Ex.fold (.mk d l) = .mk d (l.map Ex.fold) := by
  rw [fold_mk]; unfold foN; rw [if_neg h, if_neg h2]
/-- One of three. -/
theorem chosen_mem {l : List Ex} (h : l.length = 3) : chosenE (l.map Ex.fold) ∈ l.map Ex.fold := by
  obtain ⟨a, b, c, rfl⟩ := len3 h
  unfold chosenE
  split <;> simp

/-! ### A value that is known, as a formula -/
theorem known_cases {v : Vl} (h : knV v = true) : v.ok ∧ (v.k = 1 ∨ v.k = 2 ∨ v.k = 3) := ⟨known_ok h, known_kind h⟩
theorem known_neg {v : Vl} (h : knV v = true) (h2 : v.k = 1 ∧ v.n < 0) : knV ⟨v.k, -v.n, v.s⟩ = true ∧ okN v.n = true ∧ v.s = e0 := by
  obtain ⟨h3, _⟩ := known_cases h
  rcases ok_cases h3 with g | g | g | g | g
  · refine ⟨?_, g.2.1, g.2.2⟩
    have : okN (-v.n) = true := by
      have := g.2.1
      unfold okN at this ⊢
      simp only [decide_eq_true_eq] at this ⊢
      omega
    have h5 := ok_known (ok_int this) (show (1 : Int) ≠ 4 by decide) (show (1 : Int) ≠ 5 by decide)
    unfold knV
    rw [g.1, g.2.2]; exact h5
  all_goals omega
theorem const_okN {v : Vl} (h : knV v = true) (h2 : ¬ (v.k = 1 ∧ v.n < 0)) : (Ex.mk (constN v) []).okN := by
  rw [okN_mk]
  refine ⟨?_, fun x hx => absurd hx (by simp)⟩
  unfold nodeE constN
  rw [if_neg (show ¬ ((1 : Int) < 1 ∨ 18 < (1 : Int)) by decide), if_pos]
  refine ⟨rfl, ?_, rfl⟩
  unfold vOk
  rw [if_pos rfl, Bool.and_eq_true]
  refine ⟨h, ?_⟩
  rw [Bool.not_eq_true', Bool.and_eq_false_iff]
  simp only [decide_eq_false_iff_not]
  by_cases g : v.k = 1
  · exact .inr fun h3 => h2 ⟨g, h3⟩
  · exact .inl g
theorem lit_okN {v : Vl} (h : knV v = true) : (litE v).okN := by
  by_cases h2 : v.k = 1 ∧ v.n < 0
  · rw [litE_neg h2, okN_mk]
    refine ⟨rfl, fun x hx => ?_⟩
    simp at hx; subst hx
    exact const_okN (known_neg h h2).1 (fun g => by have := g.2; simp only at this; omega)
  · rw [litE_pos h2]; exact const_okN h h2
theorem ev_const (fs : List (ByteArray × Vl)) (v : Vl) (l : List Ex) : Ex.ev fs (.mk (constN v) l) = v := by
  rw [ev_mk]; unfold evN constN; rw [if_pos rfl]
theorem bin_neg {n : Int} (h : okN n = true) (h2 : n < 0) : arN 9 0 (-n) = (n, 0) := by
  unfold okN at h
  simp only [decide_eq_true_eq] at h
  have e : (0 : Int) - -n = n := by omega
  unfold arN
  rw [if_neg (by decide), if_neg (by decide), if_neg (by decide), if_neg (by decide), e]
  unfold binV binE okN
  simp only [decide_eq_true_eq]
  rw [if_pos (by omega), if_pos (by omega)]
theorem ev_lit (fs : List (ByteArray × Vl)) {v : Vl} (h : knV v = true) : Ex.ev fs (litE v) = v := by
  by_cases h2 : v.k = 1 ∧ v.n < 0
  · obtain ⟨_, g1, g2⟩ := known_neg h h2
    rw [litE_neg h2, ev_mk, evL_cons, evL_nil, ev_const]
    obtain ⟨k, n, s⟩ := v
    obtain ⟨rfl, h2⟩ := h2
    simp only at g1 g2 h2
    subst g2
    have e : evN fs negN [⟨1, -n, e0⟩] = opV 3 [⟨1, -n, e0⟩] := rfl
    have e2 : opV 3 [⟨1, -n, e0⟩] = resV (arR 9 ⟨1, 0, e0⟩ ⟨1, -n, e0⟩) := rfl
    rw [e, e2]
    unfold arR
    simp only [bin_neg g1 h2]
    rfl
  · rw [litE_pos h2, ev_const]
theorem lit_refs {v : Vl} : Ex.refs (litE v) = [] := by
  unfold litE
  split
  · rw [refs_mk_neg _ _ (by decide), refsL_cons, refsL_nil, refs_mk_neg _ _ (by show (1 : Int) ≠ 2; decide), refsL_nil]; rfl
  · rw [refs_mk_neg _ _ (by show (1 : Int) ≠ 2; decide), refsL_nil]
/-- A formula by itself is no number below nought. -/
theorem leaf_lit {d : Nd} {l : List Ex} (h : (Ex.mk d l).okN) (h1 : d.op = 1) : ¬ (d.k = 1 ∧ d.n < 0) := by
  have := ((okN_mk d l).1 h).1
  unfold nodeE at this
  rw [if_neg (by omega)] at this
  by_cases h2 : l.length = arity d.op ∧ vOk d = true ∧ nmOk d = true
  · have h3 := h2.2.1
    unfold vOk at h3
    rw [if_pos h1, Bool.and_eq_true, Bool.not_eq_true', Bool.and_eq_false_iff] at h3
    simp only [decide_eq_false_iff_not] at h3
    intro g
    rcases h3.2 with g2 | g2
    · exact g2 g.1
    · exact g2 g.2
  · rw [if_neg h2] at this; exact absurd this (by decide)
theorem lit_small {x : Ex} (h : x.okN) (hc : conB x = true) : (litE (Ex.ev [] x)).nodes ≤ x.nodes ∧ (litE (Ex.ev [] x)).depth ≤ x.depth := by
  obtain ⟨d, l⟩ := x
  obtain ⟨hr, hk⟩ := conB_iff.1 hc
  by_cases h2 : (Ex.ev [] (.mk d l)).k = 1 ∧ (Ex.ev [] (.mk d l)).n < 0
  · rw [litE_neg h2, nodes_mk, nodesL_cons, nodesL_nil, nodes_mk, nodesL_nil, depth_mk, depthL_cons, depthL_nil, depth_mk, depthL_nil, nodes_mk, depth_mk]
    cases l with
    | cons y l =>
      rw [nodesL_cons, depthL_cons]
      have h4 := nodes_pos y
      have h5 := depth_pos y
      constructor
      · omega
      · have : y.depth ≤ max y.depth (depthL l) := Nat.le_max_left _ _
        simp only [Nat.max_zero, Nat.zero_add]
        omega
    | nil =>
      exfalso
      obtain ⟨o1, o2, o3⟩ := okN_op h
      have h1 : d.op = 1 ∨ d.op = 2 := by
        by_cases g1 : d.op = 1
        · exact .inl g1
        by_cases g2 : d.op = 2
        · exact .inr g2
        have := ((arity_cases d.op).2.2.1 g1 g2).1
        rw [← o3] at this
        exact absurd this (by simp)
      rcases h1 with h1 | h1
      · have e : Ex.ev [] (.mk d []) = ⟨d.k, d.n, d.s⟩ := by rw [ev_mk]; unfold evN; rw [if_pos h1]
        rw [e] at h2
        exact leaf_lit h h1 h2
      · rw [refs_mk_pos d [] h1] at hr; exact absurd hr (by simp)
  · rw [litE_pos h2, nodes_mk, nodesL_nil, depth_mk, depthL_nil]
    exact ⟨nodes_pos _, depth_pos _⟩

/-! ### What folding keeps -/
theorem isBool_cond (fs : List (ByteArray × Vl)) {y : Ex} (h : isBoolE y = true) : Ex.ev fs y = ⟨2, y.d.n, y.d.s⟩ := by
  unfold isBoolE at h
  rw [Bool.and_eq_true, decide_eq_true_eq, decide_eq_true_eq] at h
  obtain ⟨d, l⟩ := y
  have h1 : d.op = 1 := h.1
  have h2 : d.k = 2 := h.2
  rw [ev_mk]; unfold evN; rw [if_pos h1, h2]; rfl
theorem ev_closed (fs : List (ByteArray × Vl)) {x : Ex} (h : Ex.refs x = []) : Ex.ev fs x = Ex.ev [] x := ev_local fs [] x fun s hs => by rw [h] at hs; simp at hs
theorem cho_bool {vs : List Vl} {n : Int} {s : ByteArray} (h : vs.getD 0 zeroV = ⟨2, n, s⟩) : choV vs = if n = 1 then vs.getD 1 zeroV else vs.getD 2 zeroV := by
  unfold choV
  rw [h]
  rw [if_pos (show (condV ⟨2, n, s⟩).k = 2 by unfold condV; rw [if_neg (show ¬ ((2 : Int) = 1 ∨ (2 : Int) = 3) by decide)])]
/-- What is less has the same value. -/
theorem fold_ev (fs : List (ByteArray × Vl)) : ∀ x : Ex, x.okN → Ex.ev fs (Ex.fold x) = Ex.ev fs x := by
  refine Ex.ind fun d l ih => ?_
  intro h
  obtain ⟨o1, o2, o3⟩ := okN_op h
  have hl := ((okN_mk d l).1 h).2
  by_cases hc : conB (.mk d l) = true
  · obtain ⟨hr, hk⟩ := conB_iff.1 hc
    rw [fold_con hc, ev_lit fs hk, ev_closed fs hr]
  · have eL : evL fs (l.map Ex.fold) = evL fs l := by
      rw [evL_map, evL_map, List.map_map]
      exact List.map_congr_left fun x hx => ih x hx (hl x hx)
    by_cases h2 : d.op = 17 ∧ isBoolE ((l.map Ex.fold).getD 0 zeroE) = true
    · rw [fold_if hc h2, ev_mk]
      have h3 : l.length = 3 := by rw [o3]; exact (arity_cases d.op).1 h2.1
      have e : evN fs d (evL fs l) = choV (evL fs l) := by
        unfold evN; rw [if_neg (by omega), if_neg (by omega), if_pos h2.1]
      rw [e, ← eL]
      obtain ⟨a, b, c, rfl⟩ := len3 h3
      have hb := isBool_cond fs h2.2
      have e0 : (evL fs ([a, b, c].map Ex.fold)).getD 0 zeroV = Ex.ev fs (([a, b, c].map Ex.fold).getD 0 zeroE) := by simp [evL_map]
      rw [cho_bool (e0.trans hb)]
      unfold chosenE
      by_cases h4 : (([a, b, c].map Ex.fold).getD 0 zeroE).d.n = 1
      · rw [if_pos h4, if_pos h4]; simp [evL_map]
      · rw [if_neg h4, if_neg h4]; simp [evL_map]
    · rw [fold_node hc h2, ev_mk, ev_mk, eL]
/-- It is right, no greater, and asks for nothing new. -/
theorem fold_less : ∀ x : Ex, x.okN → (Ex.fold x).okN ∧ (Ex.fold x).nodes ≤ x.nodes ∧ (Ex.fold x).depth ≤ x.depth ∧ ∀ s ∈ Ex.refs (Ex.fold x), s ∈ Ex.refs x := by
  refine Ex.ind fun d l ih => ?_
  intro h
  obtain ⟨o1, o2, o3⟩ := okN_op h
  obtain ⟨hn, hl⟩ := (okN_mk d l).1 h
  by_cases hc : conB (.mk d l) = true
  · obtain ⟨hr, hk⟩ := conB_iff.1 hc
    have := lit_small h hc
    rw [fold_con hc]
    exact ⟨lit_okN hk, this.1, this.2, fun s hs => by rw [lit_refs] at hs; simp at hs⟩
  · have key : ∀ m : List Ex, (∀ x ∈ m, x ∈ l) → nodesL (m.map Ex.fold) ≤ nodesL m ∧ depthL (m.map Ex.fold) ≤ depthL m ∧ ∀ s ∈ refsL (m.map Ex.fold), s ∈ refsL m := by
      intro m
      induction m with
      | nil => intro _; exact ⟨Nat.le_refl _, Nat.le_refl _, fun s hs => hs⟩
      | cons x m ihm =>
        intro hm
        obtain ⟨i1, i2, i3⟩ := ihm fun y hy => hm y (by simp [hy])
        obtain ⟨_, j1, j2, j3⟩ := ih x (hm x (by simp)) (hl x (hm x (by simp)))
        rw [List.map_cons, nodesL_cons, nodesL_cons, depthL_cons, depthL_cons, refsL_cons, refsL_cons]
        refine ⟨by omega, by omega, fun s hs => ?_⟩
        rw [List.mem_append] at hs ⊢
        rcases hs with hs | hs
        · exact .inl (j3 s hs)
        · exact .inr (i3 s hs)
    obtain ⟨k1, k2, k3⟩ := key l fun _ hx => hx
    by_cases h2 : d.op = 17 ∧ isBoolE ((l.map Ex.fold).getD 0 zeroE) = true
    · have h3 : l.length = 3 := by rw [o3]; exact (arity_cases d.op).1 h2.1
      rw [fold_if hc h2]
      have hm := chosen_mem h3
      generalize chosenE (l.map Ex.fold) = y at hm
      obtain ⟨x, hx, rfl⟩ := List.mem_map.1 hm
      obtain ⟨j0, j1, j2, j3⟩ := ih x hx (hl x hx)
      have g1 := nodes_mem hx
      have g2 := depth_mem hx
      rw [nodes_mk, depth_mk]
      refine ⟨j0, by omega, by omega, fun s hs => ?_⟩
      rw [refs_mk, List.mem_append]
      exact .inr (mem_refsL hx (j3 s hs))
    · rw [fold_node hc h2, nodes_mk, nodes_mk, depth_mk, depth_mk]
      refine ⟨?_, by omega, by omega, fun s hs => ?_⟩
      · rw [okN_mk]
        refine ⟨by rw [List.length_map]; exact hn, fun y hy => ?_⟩
        obtain ⟨x, hx, rfl⟩ := List.mem_map.1 hy
        exact (ih x hx (hl x hx)).1
      · rw [refs_mk, List.mem_append] at hs ⊢
        rcases hs with hs | hs
        · exact .inl hs
        · exact .inr (k3 s hs)
theorem fold_check {x : Ex} (h : x.checkE = 0) : (Ex.fold x).checkE = 0 := by
  obtain ⟨h1, h2, h3⟩ := checkE_zero h
  obtain ⟨g0, g1, g2, _⟩ := fold_less x h3
  rw [checkE_ok (by omega) (by omega)]; exact g0

/-! ### Nothing is waited for without facts -/
theorem cond_four {v : Vl} (h : v.k ≠ 4) : (condV v).k ≠ 4 := by
  unfold condV; split
  · exact (by decide : (5 : Int) ≠ 4)
  · exact h
theorem res_four {t : Int} {r : Vl × Int} (h : Res t r) (ht : t ≠ 4) : (resV r).k ≠ 4 := by
  unfold resV
  rcases h with ⟨h1, _, h3⟩ | h1 | h1 | h1 | h1
  · rw [if_pos h1, h3]; exact ht
  all_goals (rw [if_neg (by omega)]; exact (by decide : (5 : Int) ≠ 4))
theorem comp_four (op : Int) {a b : Vl} (ha : a.ok) (hb : b.ok) : (resV (compR op a b)).k ≠ 4 := by
  unfold compR
  split
  · exact res_four (arR_res _ _ _).1 (by decide)
  split
  · exact res_four (notR_res _).1 (by decide)
  split
  · exact res_four (joinR_res ha hb).1 (by decide)
  split
  · exact res_four (lenR_res hb).1 (by decide)
  split
  · exact res_four (arR_res _ _ _).1 (by decide)
  · exact res_four (cmpR_res _ _ _).1 (by decide)
theorem ev_four : ∀ x : Ex, x.okN → (Ex.ev [] x).k ≠ 4 := by
  refine Ex.ind fun d l ih => ?_
  intro h
  obtain ⟨o1, o2, o3⟩ := okN_op h
  have hl := ((okN_mk d l).1 h).2
  have hz : ∀ f ∈ ([] : List (ByteArray × Vl)), f.2.ok := fun f hf => by simp at hf
  have hv : ∀ v ∈ evL [] l, v.k ≠ 4 := fun v hv => by
    rw [evL_map] at hv
    obtain ⟨x, hx, rfl⟩ := List.mem_map.1 hv
    exact ih x hx (hl x hx)
  have hok : ∀ v ∈ evL [] l, v.ok := fun v hv => by
    rw [evL_map] at hv
    obtain ⟨x, hx, rfl⟩ := List.mem_map.1 hv
    exact ev_ok hz x (hl x hx)
  have hn := evL_len [] l
  obtain ⟨a1, a2, a3, _⟩ := arity_cases d.op
  have hg : ∀ i, ((evL [] l).getD i zeroV).k ≠ 4 := fun i => by
    by_cases hi : i < (evL [] l).length
    · rw [List.getD_eq_getElem?_getD, List.getElem?_eq_getElem hi]; exact hv _ (List.getElem_mem hi)
    · rw [List.getD_eq_getElem?_getD, List.getElem?_eq_none (by omega)]; exact (by decide : (0 : Int) ≠ 4)
  rw [ev_mk]
  unfold evN
  split
  · rename_i g
    have := known_kind (okN_const h g)
    show d.k ≠ 4
    omega
  split
  · exact (by decide : (5 : Int) ≠ 4)
  split
  · unfold choV
    split
    · split
      · exact hg 1
      · exact hg 2
    · exact cond_four (hg 0)
  split
  · unfold conV
    split
    · exact cond_four (hg 1)
    · exact cond_four (hg 0)
  split
  · unfold conV
    split
    · exact cond_four (hg 1)
    · exact cond_four (hg 0)
  · have h1 : 1 ≤ (evL [] l).length := by rw [hn, o3]; exact (a3 (by assumption) (by assumption)).1
    unfold opV
    cases e5 : firstK 5 (evL [] l) with
    | some v => exact hv v (firstK_some e5).1
    | none =>
      cases e4 : firstK 4 (evL [] l) with
      | some v => exact hv v (firstK_some e4).1
      | none => exact comp_four _ (getD_ok hok 0 (by omega)) (getD_ok hok _ (by omega))
/-- What asks for nothing and can't be known stays no number, bool or text. -/
theorem fold_fault {x : Ex} (h : x.okN) (hf : (Ex.ev [] x).k = 5) : (Ex.fold x).d.op ≠ 1 := fun h1 => by
  have e := fold_ev [] x h
  have hk := (fold_less x h).1
  generalize hy : Ex.fold x = y at h1 e hk
  obtain ⟨d, l⟩ := y
  have h2 : d.op = 1 := h1
  have := known_kind (okN_const hk h2)
  rw [ev_mk] at e
  unfold evN at e
  rw [if_pos h2] at e
  rw [← e] at hf
  have hf2 : d.k = 5 := hf
  omega
/-- What asks for nothing and is known. -/
theorem fold_known {x : Ex} (h : x.okN) (hr : Ex.refs x = []) (hf : (Ex.ev [] x).k ≠ 5) : Ex.fold x = litE (Ex.ev [] x) := by
  have hz : ∀ f ∈ ([] : List (ByteArray × Vl)), f.2.ok := fun f hf => by simp at hf
  exact fold_con (conB_iff.2 ⟨hr, ok_known (ev_ok hz x h) (ev_four x h) hf⟩)
end Go.Proofs.YtehkebncdahmcaaGreatDoor.FoM
