/- The statements' own makers of formulas over operators: with, truth, and a reference; rows of formulas. -/
import Derived.Test.YtbdofaaemgckiaaDoorEvKit
namespace Go.Proofs.YtbdofaaemgckiaaDoor.EvW
open Go.RowKit
open NumM ValM LexM ExM NmM TyM EvM EvP Kit ExL ExP ExV ExN NmG EvC EvO EvF EvG EvE EvK
set_option linter.unusedVariables false

theorem with_any (op : Int) (A : Option Addr) (n c : Nat) (w : World) : Calls Tryd.prog 23 #[.int .i64 op, .slice A n c] w fun e w' => e = .returned (.agg #[.int .i64 op, .int .i64 0, .int .i64 0, .string ⟨#[]⟩, .string ⟨#[]⟩, .slice A n c]) ∧ Below w.heap.size w w' := by
  go_enter Tryd.func23, Tryd.ntmps23
  go_wp2_with fail
  refine bodyPost_ret (v := .agg #[.int .i64 op, .int .i64 0, .int .i64 0, .string ⟨#[]⟩, .string ⟨#[]⟩, .slice A n c]) (by simp [results, Tryd.results23, go_sem]) rfl ⟨rfl, b_new _ _⟩
theorem ref_any (s : ByteArray) (w : World) : Calls Tryd.prog 25 #[.string s] w fun e w' => e = .returned (.agg #[.int .i64 2, .int .i64 0, .int .i64 0, .string ⟨#[]⟩, .string s, .slice none 0 0]) ∧ Below w.heap.size w w' := by
  go_enter Tryd.func25, Tryd.ntmps25
  go_wp2_with fail
  refine bodyPost_ret (v := .agg #[.int .i64 2, .int .i64 0, .int .i64 0, .string ⟨#[]⟩, .string s, .slice none 0 0]) (by simp [results, Tryd.results25, go_sem]) rfl ⟨rfl, b_new _ _⟩
theorem keepTruth_any (b : Bool) (w : World) : Calls Tryd.prog 24 #[.bool b] w fun e w' => e = .returned (.agg #[.int .i64 1, .int .i64 2, .int .i64 (bitI b), .string ⟨#[]⟩, .string ⟨#[]⟩, .slice none 0 0]) ∧ Below w.heap.size w w' := by
  cases b
  · go_enter Tryd.func24, Tryd.ntmps24
    go_wp2_with fail
    refine bodyPost_ret (v := .agg #[.int .i64 1, .int .i64 2, .int .i64 0, .string ⟨#[]⟩, .string ⟨#[]⟩, .slice none 0 0]) (by simp [results, Tryd.results24, go_sem]) rfl ⟨rfl, b_more (b_new _ _) _⟩
  · go_enter Tryd.func24, Tryd.ntmps24
    go_wp2_with fail
    refine bodyPost_ret (v := .agg #[.int .i64 1, .int .i64 2, .int .i64 1, .string ⟨#[]⟩, .string ⟨#[]⟩, .slice none 0 0]) (by simp [results, Tryd.results24, go_sem]) rfl ⟨rfl, b_more (b_new _ _) _⟩

/-! ### Rows of formulas -/
def RowE (w : World) (g : Nat) (es : List El) : Prop := w.heap[g]? = some (.cells (elC es).toArray 26 (0, 0))
theorem RowE.lt {w : World} {g : Nat} {es : List El} (h : RowE w g es) : g < w.heap.size := (Array.getElem?_eq_some_iff.1 h).1
theorem RowE.below {w w' : World} {g : Nat} {es : List El} (h : RowE w g es) (hb : Below w.heap.size w w') : RowE w' g es := (hb.block g h.lt).trans h
def opD (op : Int) : Nd := ⟨op, 0, 0, ⟨#[]⟩, ⟨#[]⟩⟩
theorem is_row {w : World} {g : Nat} {es : List El} (op : Int) (h : RowE w g es) (hl : es.length ≤ maxLen) (hi : ∀ e ∈ es, Is w e.x e.d e.A e.n) : Is w (.mk (opD op) (es.map El.x)) (opD op) (some ⟨g, 0, none⟩) es.length := by
  refine is_mk.2 ⟨rfl, by rw [List.length_map], ⟨hl, Nat.zero_le _, Nat.zero_le _⟩, fun j hj => ?_⟩
  have hj' : j < es.length := by simpa using hj
  have key : ∀ i, i < 6 → w.cell? ⟨g, j * 6 + i, none⟩ = (es[j]).cells[i]? := fun i h6 => by
    unfold RowE at h
    simp only [World.cell?, h, Option.isSome_none, Bool.false_eq_true, if_false]
    rw [List.getElem?_toArray, elC_at es j hj' i h6]
  have e : (⟨g, 0, none⟩ : Addr).add (j * 6) = ⟨g, j * 6, none⟩ := by unfold Addr.add; split <;> simp_all
  refine ⟨⟨g, 0, none⟩, es[j].d, es[j].A, es[j].n, es[j].c, rfl, ?_, ?_⟩
  · rw [e]
    exact ⟨key 0 (by omega), key 1 (by omega), key 2 (by omega), key 3 (by omega), key 4 (by omega), key 5 (by omega)⟩
  · rw [List.getElem_map]; exact hi _ (List.getElem_mem hj')
/-- A formula of one node. -/
def leafEl (d : Nd) : El := ⟨.mk d [], d, none, 0, 0⟩
theorem leaf_is (w : World) (d : Nd) (h1 : d.s.size ≤ maxLen) (h2 : d.nm.size ≤ maxLen) : Is w (.mk d []) d none 0 := is_mk.2 ⟨rfl, rfl, ⟨Nat.zero_le _, h1, h2⟩, fun j hj => absurd hj (by simp)⟩
theorem check_op {op : Int} {l : List Ex} (h3 : 3 ≤ op) (h18 : op ≤ 18) (hl : l.length = arity op) (hok : ∀ x ∈ l, x.okN) (hn : nodesL l ≤ 59) (hd : depthL l ≤ 11) : (Ex.mk (opD op) l).checkE = 0 := by
  rw [checkE_ok (by rw [nodes_mk]; omega) (by rw [depth_mk]; omega)]
  refine (okN_mk _ _).2 ⟨?_, hok⟩
  unfold nodeE opD
  have h1 : ¬ (op < 1 ∨ 18 < op) := by omega
  have hv : vOk ⟨op, 0, 0, ⟨#[]⟩, ⟨#[]⟩⟩ = true := by unfold vOk; rw [if_neg (show ¬ op = 1 by omega)]; rfl
  have hm : nmOk ⟨op, 0, 0, ⟨#[]⟩, ⟨#[]⟩⟩ = true := by unfold nmOk; rw [if_neg (show ¬ op = 2 by omega)]; rfl
  show (if op < 1 ∨ 18 < op then (2 : Int) else if l.length = arity op ∧ _ ∧ _ then 0 else 3) = 0
  rw [if_neg h1, if_pos ⟨hl, hv, hm⟩]
theorem leaf_nodes (d : Nd) : (Ex.mk d []).nodes = 1 ∧ (Ex.mk d []).depth = 1 := by rw [nodes_mk, depth_mk, nodesL_nil, depthL_nil]; exact ⟨rfl, rfl⟩
theorem leaf_ok {d : Nd} (h : nodeE d 0 = 0) : (Ex.mk d []).okN := (okN_mk _ _).2 ⟨h, fun x hx => absurd hx (by simp)⟩
theorem ev_op (fs : List (ByteArray × Vl)) {op : Int} (l : List Ex) (h : op ≠ 1 ∧ op ≠ 2 ∧ op ≠ 15 ∧ op ≠ 16 ∧ op ≠ 17) : Ex.ev fs (.mk (opD op) l) = opV op (l.map (Ex.ev fs)) := by
  rw [ev_mk, evL_map]; unfold evN opD
  show (if op = 1 then _ else if op = 2 then _ else if op = 17 then _ else if op = 15 then _ else if op = 16 then _ else _) = _
  rw [if_neg h.1, if_neg h.2.1, if_neg h.2.2.2.2, if_neg h.2.2.1, if_neg h.2.2.2.1]
end Go.Proofs.YtbdofaaemgckiaaDoor.EvW
