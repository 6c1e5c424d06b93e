/- Formulas made of two others and what fields are: not, and, or, less, at most; what eval.Of says of them. -/
import Derived.Test.YtbdofaaemgckiaaDoorEvPair
import Derived.Test.YtbdofaaemgckiaaDoorEvDual
namespace Go.Proofs.YtbdofaaemgckiaaDoor.EvU
open Go.RowKit
open NumM ValM LexM ExM NmM TyM EvM EvP EvD Kit ExL ExP ExV ExN RawL GenL Gen GenE GenT NmG EvC EvO EvF EvG EvK EvW EvJ
set_option linter.unusedVariables false

structure EOk (V : World) (e : El) (dp nd : Nat) : Prop where
  his : Is V e.x e.d e.A e.n
  ok : e.x.okN
  dep : e.x.depth ≤ dp
  nod : e.x.nodes ≤ nd
theorem EOk.below {V V' : World} {e : El} {dp nd : Nat} (h : EOk V e dp nd) (hb : Below V.heap.size V V') : EOk V' e dp nd := ⟨h.his.below hb, h.ok, h.dep, h.nod⟩
def nodeOf (op : Int) (g : Nat) (es : List El) : El := ⟨.mk (opD op) (es.map El.x), opD op, some ⟨g, 0, none⟩, es.length, es.length⟩
theorem EOk.one {V : World} {e : El} {dp nd op g} (h : EOk V e dp nd) (h3 : 3 ≤ op) (h18 : op ≤ 18) (ha : arity op = 1) (hd : dp ≤ 11) (hn : nd ≤ 59) (hr : RowE V g [e]) : EOk V (nodeOf op g [e]) (dp + 1) (nd + 1) := by
  have hN : (Ex.mk (opD op) [e.x]).nodes ≤ nd + 1 := by
    have := h.nod
    rw [nodes_mk, nodesL_cons, nodesL_nil]; omega
  have hD : (Ex.mk (opD op) [e.x]).depth ≤ dp + 1 := by
    have := h.dep
    rw [depth_mk, depthL_cons, depthL_nil]; omega
  refine ⟨is_row op hr (by show 1 ≤ maxLen; unfold maxLen; simp) (fun x hx => ?_), ?_, hD, hN⟩
  · simp only [List.mem_cons, List.not_mem_nil, or_false] at hx
    subst hx; exact h.his
  · have hc : (Ex.mk (opD op) [e.x]).checkE = 0 := check_op h3 h18 ha.symm (fun x hx => by
      simp only [List.mem_cons, List.not_mem_nil, or_false] at hx
      subst hx; exact h.ok) (by have := h.nod; rw [nodesL_cons, nodesL_nil]; omega) (by have := h.dep; rw [depthL_cons, depthL_nil]; omega)
    rw [checkE_ok (by omega) (by omega)] at hc
    exact hc
theorem EOk.two {V : World} {e f : El} {dp nd op g} (h : EOk V e dp nd) (k : EOk V f dp nd) (h3 : 3 ≤ op) (h18 : op ≤ 18) (ha : arity op = 2) (hd : dp ≤ 11) (hn : nd ≤ 29) (hr : RowE V g [e, f]) : EOk V (nodeOf op g [e, f]) (dp + 1) (nd + nd + 1) := by
  have hN : (Ex.mk (opD op) [e.x, f.x]).nodes ≤ nd + nd + 1 := by
    have := h.nod; have := k.nod
    rw [nodes_mk, nodesL_cons, nodesL_cons, nodesL_nil]; omega
  have hD : (Ex.mk (opD op) [e.x, f.x]).depth ≤ dp + 1 := by
    have := h.dep; have := k.dep
    rw [depth_mk, depthL_cons, depthL_cons, depthL_nil]; omega
  refine ⟨is_row op hr (by show 2 ≤ maxLen; unfold maxLen; simp) (fun x hx => ?_), ?_, hD, hN⟩
  · simp only [List.mem_cons, List.not_mem_nil, or_false] at hx
    rcases hx with rfl | rfl
    · exact h.his
    · exact k.his
  · have hc : (Ex.mk (opD op) [e.x, f.x]).checkE = 0 := check_op h3 h18 ha.symm (fun x hx => by
      simp only [List.mem_cons, List.not_mem_nil, or_false] at hx
      rcases hx with rfl | rfl
      · exact h.ok
      · exact k.ok) (by have := h.nod; have := k.nod; rw [nodesL_cons, nodesL_cons, nodesL_nil]; omega) (by have := h.dep; have := k.dep; rw [depthL_cons, depthL_cons, depthL_nil]; omega)
    rw [checkE_ok (by omega) (by omega)] at hc
    exact hc
def OfAt (V : World) (d : Nd) (A : Option Addr) (n c g cap : Nat) (v : Vl) : Prop :=
  Calls Tryd.prog 11 #[.agg #[.int .i64 d.op, .int .i64 d.k, .int .i64 d.n, .string d.s, .string d.nm, .slice A n c], .slice (some ⟨g, 0, none⟩) 5 cap] V fun e' w' => e' = .returned (.tuple #[.agg #[.int .i64 v.k, .int .i64 v.n, .string v.s], .int .i64 0]) ∧ Below V.heap.size V w'
/-- What stands laid: fields' facts. -/
structure Facts (V : World) (g cap : Nat) (vs : List Fc) (rest : List Value) : Prop where
  fit : Fits5 vs
  row : RowF V g vs rest
  tab : Tab V
theorem Facts.below {V V' : World} {g cap vs rest} (h : Facts V g cap vs rest) (hb : Below V.heap.size V V') : Facts V' g cap vs rest := ⟨h.fit, h.row.below hb, h.tab.below hb⟩
theorem of_el {V : World} {e : El} {dp nd g cap vs rest} (h : EOk V e dp nd) (hd : dp ≤ 12) (hn : nd ≤ 60) (hF : Facts V g cap vs rest) : OfAt V e.d e.A e.n e.c g cap (Ex.ev (fcs vs) e.x) := by
  have h1 := h.dep; have h2 := h.nod
  have hck : e.x.checkE = 0 := by rw [checkE_ok (by omega) (by omega)]; exact h.ok
  have := of_good e.x vs (some ⟨g, 0, none⟩) cap e.d e.A e.n e.c V (by rw [hF.fit.1]; decide) hF.fit.names h.his hF.row.fcs hF.tab hck hF.fit.ok
  rw [hF.fit.1] at this; exact this
theorem ev_not (fs : List (ByteArray × Vl)) (p : Ex) : Ex.ev fs (.mk (opD 4) [p]) = notV (Ex.ev fs p) := ev_op fs [p] (by decide)
theorem ev_and (fs : List (ByteArray × Vl)) (p q : Ex) : Ex.ev fs (.mk (opD 15) [p, q]) = conV true [Ex.ev fs p, Ex.ev fs q] := by
  rw [ev_mk, evL_cons, evL_cons, evL_nil]; rfl
theorem ev_or (fs : List (ByteArray × Vl)) (p q : Ex) : Ex.ev fs (.mk (opD 16) [p, q]) = conV false [Ex.ev fs p, Ex.ev fs q] := by
  rw [ev_mk, evL_cons, evL_cons, evL_nil]; rfl
theorem ev_cmp (fs : List (ByteArray × Vl)) {op : Int} (h : op = 11 ∨ op = 12) (p q : Ex) : Ex.ev fs (.mk (opD op) [p, q]) = opV op [Ex.ev fs p, Ex.ev fs q] := ev_op fs [p, q] (by omega)
section
variable {W : World} {p q : El} {g cap : Nat} {vs : List Fc} {rest : List Value}
theorem not_and (hp : EOk W p 3 13) (hq : EOk W q 3 13) (hF : Facts W g cap vs rest) (V : World) (g1 g2 : Nat) (hV : Below W.heap.size W V) (h1 : RowE V g1 [p, q]) (h2 : RowE V g2 [nodeOf 15 g1 [p, q]]) :
    OfAt V (opD 4) (some ⟨g2, 0, none⟩) 1 1 g cap (notV (conV true [Ex.ev (fcs vs) p.x, Ex.ev (fcs vs) q.x])) := by
  have := of_el (((hp.below hV).two (hq.below hV) (by decide) (by decide) rfl (by decide) (by decide) h1).one (op := 4) (by decide) (by decide) rfl (by decide) (by decide) h2) (by decide) (by decide) (hF.below hV)
  rw [← ev_and, ← ev_not]; exact this
theorem or_not (hp : EOk W p 3 13) (hq : EOk W q 3 13) (hF : Facts W g cap vs rest) (V : World) (g1 g2 g3 : Nat) (hV : Below W.heap.size W V) (h1 : RowE V g1 [p]) (h2 : RowE V g2 [q]) (h3 : RowE V g3 [nodeOf 4 g1 [p], nodeOf 4 g2 [q]]) :
    OfAt V (opD 16) (some ⟨g3, 0, none⟩) 2 2 g cap (conV false [notV (Ex.ev (fcs vs) p.x), notV (Ex.ev (fcs vs) q.x)]) := by
  have := of_el (((hp.below hV).one (op := 4) (by decide) (by decide) rfl (by decide) (by decide) h1).two ((hq.below hV).one (op := 4) (by decide) (by decide) rfl (by decide) (by decide) h2) (op := 16) (by decide) (by decide) rfl (by decide) (by decide) h3) (by decide) (by decide) (hF.below hV)
  rw [← ev_not, ← ev_not, ← ev_or]; exact this
theorem less_of (hp : EOk W p 3 13) (hq : EOk W q 3 13) (hF : Facts W g cap vs rest) (V : World) (g1 : Nat) (hV : Below W.heap.size W V) (h1 : RowE V g1 [p, q]) :
    OfAt V (opD 11) (some ⟨g1, 0, none⟩) 2 2 g cap (opV 11 [Ex.ev (fcs vs) p.x, Ex.ev (fcs vs) q.x]) := by
  have := of_el ((hp.below hV).two (hq.below hV) (op := 11) (by decide) (by decide) rfl (by decide) (by decide) h1) (by decide) (by decide) (hF.below hV)
  rw [← ev_cmp _ (.inl rfl)]; exact this
theorem not_most (hp : EOk W p 3 13) (hq : EOk W q 3 13) (hF : Facts W g cap vs rest) (V : World) (g1 g2 : Nat) (hV : Below W.heap.size W V) (h1 : RowE V g1 [p, q]) (h2 : RowE V g2 [nodeOf 12 g1 [p, q]]) :
    OfAt V (opD 4) (some ⟨g2, 0, none⟩) 1 1 g cap (notV (opV 12 [Ex.ev (fcs vs) p.x, Ex.ev (fcs vs) q.x])) := by
  have := of_el (((hp.below hV).two (hq.below hV) (op := 12) (by decide) (by decide) rfl (by decide) (by decide) h1).one (op := 4) (by decide) (by decide) rfl (by decide) (by decide) h2) (by decide) (by decide) (hF.below hV)
  rw [← ev_cmp _ (.inr rfl), ← ev_not]; exact this
end
theorem el_ok {V : World} {kind : Int} {x : Ex} {d : Nd} {A : Option Addr} {n c : Nat} (h : Gn someF 2 kind x) (hi : Is V x d A n) : EOk V ⟨x, d, A, n, c⟩ 3 13 := by
  have hok := gn_ok someF_nm 2 _ x h
  rw [show nb 2 = 13 from rfl] at hok
  exact ⟨hi, hok.1, hok.2.1, hok.2.2⟩
/-- The four answers, of values that are right. -/
theorem four {fs : List (ByteArray × Vl)} (hf : ∀ f ∈ fs, f.2.ok) {p q x y : Ex} (hp : p.okN) (hq : q.okN) (hx : x.okN) (hy : y.okN) :
    ∃ a c d : Vl, notV (conV true [Ex.ev fs p, Ex.ev fs q]) = a ∧ conV false [notV (Ex.ev fs p), notV (Ex.ev fs q)] = a ∧ opV 11 [Ex.ev fs x, Ex.ev fs y] = c ∧ notV (opV 12 [Ex.ev fs y, Ex.ev fs x]) = d ∧ 0 < a.k ∧ 0 < c.k ∧ (c = d ∨ (c.k = 5 ∧ d.k = 5)) := by
  have ep := ev_ok hf p hp; have eq := ev_ok hf q hq; have ex := ev_ok hf x hx; have ey := ev_ok hf y hy
  refine ⟨_, _, _, rfl, (duals ep eq).symm, rfl, rfl, ?_, ?_, less_dual ex ey⟩
  · have hc : (conV true [Ex.ev fs p, Ex.ev fs q]).ok := by
      rw [con_two]; split
      · exact cond_ok eq
      · exact cond_ok ep
    have := (ok_kind (opV_ok 4 (vs := [conV true [Ex.ev fs p, Ex.ev fs q]]) (fun v hv => by simp only [List.mem_cons, List.not_mem_nil, or_false] at hv; subst hv; exact hc) (by simp))).1
    unfold notV; omega
  · have := (ok_kind (opV_ok 11 (vs := [Ex.ev fs x, Ex.ev fs y]) (fun v hv => by
      simp only [List.mem_cons, List.not_mem_nil, or_false] at hv
      rcases hv with rfl | rfl
      · exact ex
      · exact ey) (by simp))).1
    omega
/-! ### Steps of a region whose order is drawn -/
theorem sz2 (V : World) (o o' : Obj) : ((V.alloc o).alloc o').heap.size = V.heap.size + 1 + 1 := by simp
theorem rowE_alloc {V : World} {g : Nat} {es : List El} (h : RowE V g es) (o : Obj) : RowE (V.alloc o) g es := h.below (b_new _ _)
theorem rowE_drew {V : World} {g : Nat} {es : List El} (h : RowE V g es) : RowE V.drew g es := h
theorem bv_alloc {V : World} {g : Nat} {k n : Int} {s : ByteArray} (h : BV V g k n s) (o : Obj) : BV (V.alloc o) g k n s := h.below (b_new _ _)
theorem bv_drew {V : World} {g : Nat} {k n : Int} {s : ByteArray} (h : BV V g k n s) : BV V.drew g k n s := h
theorem row_at (V : World) (g : Nat) (es : List El) (hg : V.heap.size = g) : RowE (V.alloc (.cells (elC es).toArray 26)) g es := by subst hg; exact World.alloc_heap_new V _
theorem bv_at (V : World) (g : Nat) (hg : V.heap.size = g) : BV (V.alloc (.cells #[.int .i64 0, .int .i64 0, .string ⟨#[]⟩] 23)) g 0 0 ⟨#[]⟩ := by subst hg; exact BV.new V 0 0 ⟨#[]⟩
theorem withR {op : Int} {g n c : Nat} {es : List El} {w : World} (h : RowE w g es) : Calls Tryd.prog 23 #[.int .i64 op, .slice (some ⟨g, 0, none⟩) n c] w fun e w' =>
    e = .returned (.agg #[.int .i64 op, .int .i64 0, .int .i64 0, .string ⟨#[]⟩, .string ⟨#[]⟩, .slice (some ⟨g, 0, none⟩) n c]) ∧ Below w.heap.size w w' ∧ RowE w' g es :=
  (EvW.with_any op _ n c w).mono fun e w' h' => ⟨h'.1, h'.2, h.below h'.2⟩
theorem withN {g1 g2 g n c : Nat} {a b : List El} {V1 V2 w : World} (_ : RowE V1 g1 a) (_ : RowE V2 g2 b) (h : RowE w g [nodeOf 4 g1 a, nodeOf 4 g2 b]) : Calls Tryd.prog 23 #[.int .i64 16, .slice (some ⟨g, 0, none⟩) n c] w fun e w' =>
    e = .returned (.agg #[.int .i64 16, .int .i64 0, .int .i64 0, .string ⟨#[]⟩, .string ⟨#[]⟩, .slice (some ⟨g, 0, none⟩) n c]) ∧ Below w.heap.size w w' ∧ RowE w' g [nodeOf 4 g1 a, nodeOf 4 g2 b] := withR h
end Go.Proofs.YtbdofaaemgckiaaDoor.EvU
