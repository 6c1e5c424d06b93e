/- The statements' own forms: what of them the statements lean on (names, places), and the small form. -/
import Derived.Test.YtdlfhldboagbeaaGreatDoorForm
import Derived.Test.YtdlfhldboagbeaaGreatDoorFld
namespace Go.Proofs.YtdlfhldboagbeaaGreatDoor.FrmT
open Go.RowKit
open ValM LexM NumM ExM Kit ExL ExP RawV Within RawL RawN GenL Gen GenE GenT GenV FrmM Frm FldP
set_option linter.unusedVariables false

theorem nmK_inj : ∀ i, i < 10 → ∀ j, j < 10 → nmK i = nmK j → i = j := by decide
theorem nmK_none : ∀ i, i < 10 → nmK i ≠ ⟨#[110, 111, 110, 101]⟩ := by decide
theorem baseV_len (rs : List Rw) : (baseV rs).length = countV rs := fieldsV_len rs _
theorem formF_len (rs : List Rw) : (formF rs).length = countV rs := by
  unfold formF
  split
  · rw [List.length_reverse, baseV_len]
  · exact baseV_len rs
/-- Which of the base fields stands at a place of the form. -/
def plc (rs : List Rw) (i : Nat) : Nat := if turnB rs = true then countV rs - 1 - i else i
theorem plc_lt (rs : List Rw) (i : Nat) (h : i < countV rs) : plc rs i < countV rs := by unfold plc; split <;> omega
theorem plc_inj (rs : List Rw) (i j : Nat) (hi : i < countV rs) (hj : j < countV rs) (h : plc rs i = plc rs j) : i = j := by unfold plc at h; split at h <;> omega
theorem formF_at (rs : List Rw) (i : Nat) (h : i < (formF rs).length) : (formF rs)[i] = (baseV rs)[plc rs i]'(by rw [baseV_len]; exact plc_lt rs i (by rw [← formF_len]; exact h)) := by
  have hl := formF_len rs
  unfold formF plc
  by_cases ht : turnB rs = true
  · simp only [if_pos ht, List.getElem_reverse]
    congr 1
    rw [baseV_len]
  · simp only [if_neg ht]
theorem formF_nm (rs : List Rw) (i : Nat) (h : i < (formF rs).length) : (formF rs)[i].nm = nmK (plc rs i) := by
  rw [formF_at rs i h]
  exact fieldsV_nm rs _ _ _
theorem frow_flds {P : Nat → Prop} {w : World} {A : Option Addr} {es : List FE} (h : FRow P w A es) : Flds w A (es.map FE.fd) := fun i hi => by
  have hi' : i < es.length := by simpa using hi
  obtain ⟨g, e, _, hc, _⟩ := h i hi'
  refine ⟨_, e, ?_⟩
  rw [add_block, List.getElem_map]
  exact fdAt_of hc
theorem fe_at {rs : List Rw} {es : List FE} (h : es.map FE.v = formF rs) (i : Nat) (hi : i < es.length) (hj : i < (formF rs).length) : es[i].v = (formF rs)[i] := by
  have : (es.map FE.v)[i]'(by simpa using hi) = (formF rs)[i] := by simp only [h]
  rw [← this, List.getElem_map]
/-- Each field of a form is found at its place; no other name is found. -/
theorem form_places {rs : List Rw} {es : List FE} (h : es.map FE.v = formF rs) : (es.length = countV rs) ∧ (∀ (i : Nat) (hi : i < es.length), atF (es.map FE.fd) (es[i].nm) = i ∧ es[i].nm.size ≤ 4) ∧ atF (es.map FE.fd) ⟨#[110, 111, 110, 101]⟩ = es.length := by
  have hl : es.length = (formF rs).length := by rw [← h, List.length_map]
  have hc : es.length = countV rs := by rw [hl, formF_len]
  have hb := countV_bd rs
  have hn : ∀ (i : Nat) (hi : i < es.length), es[i].nm = nmK (plc rs i) := fun i hi => by
    have := fe_at h i hi (by omega)
    rw [← formF_nm rs i (by omega), ← this]; rfl
  have hf : ∀ (j : Nat) (hj : j < (es.map FE.fd).length), (es.map FE.fd)[j].nm = nmK (plc rs j) := fun j hj => by
    rw [List.getElem_map]; exact hn j (by simpa using hj)
  refine ⟨hc, fun i hi => ⟨?_, by rw [hn i hi]; exact nmK_size _⟩, ?_⟩
  · refine atF_eq _ _ i (by simpa using hi) (fun j hj hji e => ?_) ?_
    · have hj' : j < es.length := by simpa using hj
      rw [hf j hj, hn i hi] at e
      have h1 := plc_lt rs j (by omega)
      have h2 := plc_lt rs i (by omega)
      have := plc_inj rs j i (by omega) (by omega) (nmK_inj _ (by omega) _ (by omega) e)
      omega
    · rw [hf i (by simpa using hi), hn i hi]
  · have := atF_none (fs := es.map FE.fd) (s := ⟨#[110, 111, 110, 101]⟩) fun j hj e => by
      have hj' : j < es.length := by simpa using hj
      rw [hf j hj] at e
      exact nmK_none _ (by have := plc_lt rs j (by omega); omega) e
    rw [this, List.length_map]

theorem fld0 (A B : Option Addr) (n m c d : Nat) (w : World) : (Instr.field 25 (.agg #[.slice A n c, .slice B m d]) 0).run Tryz.prog w = .ok (.slice A n c) w := by kernel_rfl
theorem fld1 (A B : Option Addr) (n m c d : Nat) (w : World) : (Instr.field 25 (.agg #[.slice A n c, .slice B m d]) 1).run Tryz.prog w = .ok (.slice B m d) w := by kernel_rfl
/-! ### small -/
def smallV : List FV := [⟨⟨#[98]⟩, 2, 1, .mk ⟨8, 0, 0, ⟨#[]⟩, ⟨#[]⟩⟩ [.mk ⟨2, 0, 0, ⟨#[]⟩, ⟨#[97]⟩⟩ [], .mk ⟨1, 1, 1, ⟨#[]⟩, ⟨#[]⟩⟩ []]⟩, ⟨⟨#[97]⟩, 1, 1, zeroX⟩, ⟨⟨#[99]⟩, 3, 3, .mk ⟨2, 0, 0, ⟨#[]⟩, ⟨#[98]⟩⟩ []⟩]
def smallP : List PV := [⟨⟨#[112, 49]⟩, [⟨#[97]⟩], zeroX⟩, ⟨⟨#[112, 50]⟩, [⟨#[99]⟩], zeroX⟩]
def SmallOut (w : World) (e : Ending) (w' : World) : Prop :=
  ∃ (es : List FE) (FA : Option Addr) (fc : Nat) (ps : List PE) (PA : Option Addr) (pc : Nat), e = .returned (.agg #[.slice FA es.length fc, .slice PA ps.length pc]) ∧ es.map FE.v = smallV ∧ ps.map PE.v = smallP ∧
    FRow (fun b => w.heap.size ≤ b) w' FA es ∧ PRow (fun b => w.heap.size ≤ b) w' PA ps ∧ Below w.heap.size w w' ∧ (es.length ≤ fc ∧ fc ≤ maxLen) ∧ (ps.length ≤ pc ∧ pc ≤ maxLen)
theorem small_len {es : List FE} (h : es.map FE.v = smallV) : es.length = 3 := by
  have := congrArg List.length h
  simpa [smallV] using this
theorem small_c {es : List FE} (h : es.map FE.v = smallV) : atF (es.map FE.fd) ⟨#[99]⟩ = 2 := by
  have hl := small_len h
  match es, h, hl with
  | [a, b, c], h, _ =>
    simp only [List.map_cons, List.map_nil, smallV, List.cons.injEq, and_true] at h
    obtain ⟨h1, h2, h3⟩ := h
    have e1 : a.fd.nm = ⟨#[98]⟩ := congrArg FV.nm h1
    have e2 : b.fd.nm = ⟨#[97]⟩ := congrArg FV.nm h2
    have e3 : c.fd.nm = ⟨#[99]⟩ := congrArg FV.nm h3
    simp only [List.map_cons, List.map_nil, atF, e1, e2, e3]
    decide
theorem seven (w : World) (c0 c1 c2 c3 c4 c5 c6 : Array Value) (t0 t1 t2 t3 t4 t5 t6 : TypeId) (W : World) (h : W = ((((((w.alloc (.cells c0 t0)).alloc (.cells c1 t1)).alloc (.cells c2 t2)).alloc (.cells c3 t3)).alloc (.cells c4 t4)).alloc (.cells c5 t5)).alloc (.cells c6 t6)) :
    W.heap[w.heap.size]? = some (.cells c0 t0 (0, 0)) ∧ W.heap[w.heap.size + 1]? = some (.cells c1 t1 (0, 0)) ∧ W.heap[w.heap.size + 1 + 1 + 1]? = some (.cells c3 t3 (0, 0)) ∧ W.heap[w.heap.size + 1 + 1 + 1 + 1]? = some (.cells c4 t4 (0, 0)) ∧ W.heap[w.heap.size + 1 + 1 + 1 + 1 + 1]? = some (.cells c5 t5 (0, 0)) ∧ W.heap[w.heap.size + 1 + 1 + 1 + 1 + 1 + 1]? = some (.cells c6 t6 (0, 0)) ∧ Below w.heap.size w W := by
  subst h
  have al : ∀ (V : World) (o : Obj) (b : Nat) (_ : b < V.heap.size), (V.alloc o).heap[b]? = V.heap[b]? := fun V o b hb => (b_new V o).block b hb
  have nw : ∀ (V : World) (c : Array Value) (t : TypeId) (b : Nat), V.heap.size = b → (V.alloc (.cells c t)).heap[b]? = some (.cells c t (0, 0)) := fun V c t b hb => by rw [← hb]; exact World.alloc_heap_new V _
  refine ⟨?_, ?_, ?_, ?_, ?_, ?_, b_more (b_more (b_more (b_more (b_more (b_more (b_new _ _) _) _) _) _) _) _⟩
  · rw [al _ _ _ (by simp only [World.size_alloc]; omega), al _ _ _ (by simp only [World.size_alloc]; omega), al _ _ _ (by simp only [World.size_alloc]; omega), al _ _ _ (by simp only [World.size_alloc]; omega), al _ _ _ (by simp only [World.size_alloc]; omega), al _ _ _ (by simp only [World.size_alloc]; omega)]; exact nw _ _ _ _ rfl
  · rw [al _ _ _ (by simp only [World.size_alloc]; omega), al _ _ _ (by simp only [World.size_alloc]; omega), al _ _ _ (by simp only [World.size_alloc]; omega), al _ _ _ (by simp only [World.size_alloc]; omega), al _ _ _ (by simp only [World.size_alloc]; omega)]; exact nw _ _ _ _ (by simp only [World.size_alloc])
  · rw [al _ _ _ (by simp only [World.size_alloc]; omega), al _ _ _ (by simp only [World.size_alloc]; omega), al _ _ _ (by simp only [World.size_alloc]; omega)]; exact nw _ _ _ _ (by simp only [World.size_alloc])
  · rw [al _ _ _ (by simp only [World.size_alloc]; omega), al _ _ _ (by simp only [World.size_alloc]; omega)]; exact nw _ _ _ _ (by simp only [World.size_alloc])
  · rw [al _ _ _ (by simp only [World.size_alloc]; omega)]; exact nw _ _ _ _ (by simp only [World.size_alloc])
  · exact nw _ _ _ _ (by simp only [World.size_alloc])
theorem cell_blk {W : World} {b : Nat} {cs : Array Value} {t : TypeId} {fr : Nat × Nat} (h : W.heap[b]? = some (.cells cs t fr)) (o : Nat) : W.cell? ⟨b, o, none⟩ = cs[o]? := by unfold World.cell?; rw [h]; rfl
set_option maxHeartbeats 4000000 in
theorem small_any (w : World) : Calls Tryz.prog 18 #[] w (SmallOut w) := by
  go_enter Tryz.func18, Tryz.ntmps18
  go_wp2
  refine bodyPost_ret (v := .agg #[.slice (some ⟨w.heap.size + 1 + 1 + 1, 0, none⟩) 3 3, .slice (some ⟨w.heap.size + 1 + 1 + 1 + 1 + 1 + 1, 0, none⟩) 2 2]) (by simp [results, Tryz.results18, go_sem]) rfl ?_
  generalize hW : World.alloc _ _ = W
  obtain ⟨_, f1, f3, f4, f5, f6, hb⟩ := seven w _ _ _ _ _ _ _ _ _ _ _ _ _ _ W hW.symm
  clear hW
  have lA : ∀ (d : Nd), d.s.size ≤ maxLen → d.nm.size ≤ maxLen → IsP (fun b => w.heap.size ≤ b) W (.mk d []) d none 0 := fun d h1 h2 => isP_leaf _ _ _ _ h1 h2
  have hone : IsP (fun b => w.heap.size ≤ b) W (.mk ⟨8, 0, 0, ⟨#[]⟩, ⟨#[]⟩⟩ [.mk ⟨2, 0, 0, ⟨#[]⟩, ⟨#[97]⟩⟩ [], .mk ⟨1, 1, 1, ⟨#[]⟩, ⟨#[]⟩⟩ []]) ⟨8, 0, 0, ⟨#[]⟩, ⟨#[]⟩⟩ (some ⟨w.heap.size + 1, 0, none⟩) 2 := by
    refine isP_row (g := w.heap.size + 1) (es := [⟨.mk ⟨2, 0, 0, ⟨#[]⟩, ⟨#[97]⟩⟩ [], ⟨2, 0, 0, ⟨#[]⟩, ⟨#[97]⟩⟩, none, 0, 0⟩, ⟨.mk ⟨1, 1, 1, ⟨#[]⟩, ⟨#[]⟩⟩ [], ⟨1, 1, 1, ⟨#[]⟩, ⟨#[]⟩⟩, none, 0, 0⟩]) (fun j hj => ?_) (Nat.le_succ _) (by decide) (Nat.zero_le _) (Nat.zero_le _) (fun e he => ?_)
    · rw [cell_blk f1]
      match j, hj with
      | 0, _ | 1, _ | 2, _ | 3, _ | 4, _ | 5, _ | 6, _ | 7, _ | 8, _ | 9, _ | 10, _ | 11, _ => rfl
    · simp only [List.mem_cons, List.not_mem_nil, or_false] at he
      rcases he with rfl | rfl <;> exact lA _ (by decide) (by decide)
  refine ⟨[⟨⟨#[98]⟩, 2, 1, .mk ⟨8, 0, 0, ⟨#[]⟩, ⟨#[]⟩⟩ [.mk ⟨2, 0, 0, ⟨#[]⟩, ⟨#[97]⟩⟩ [], .mk ⟨1, 1, 1, ⟨#[]⟩, ⟨#[]⟩⟩ []], some ⟨w.heap.size + 1, 0, none⟩, 2, 2⟩, ⟨⟨#[97]⟩, 1, 1, zeroX, none, 0, 0⟩, ⟨⟨#[99]⟩, 3, 3, .mk ⟨2, 0, 0, ⟨#[]⟩, ⟨#[98]⟩⟩ [], none, 0, 0⟩], _, 3, [⟨⟨#[112, 49]⟩, [⟨#[97]⟩], some ⟨w.heap.size + 1 + 1 + 1 + 1, 0, none⟩, 1, zeroX, none, 0, 0⟩, ⟨⟨#[112, 50]⟩, [⟨#[99]⟩], some ⟨w.heap.size + 1 + 1 + 1 + 1 + 1, 0, none⟩, 1, zeroX, none, 0, 0⟩], _, 2, rfl, rfl, rfl, fun i hi => ?_, fun i hi => ?_, hb, ⟨Nat.le_refl _, by decide⟩, ⟨Nat.le_refl _, by decide⟩⟩
  · match i, hi with
    | 0, _ =>
      refine ⟨_, rfl, by omega, fun j hj => ?_, hone⟩
      rw [cell_blk f3]
      match j, hj with
      | 0, _ | 1, _ | 2, _ | 3, _ | 4, _ | 5, _ | 6, _ | 7, _ | 8, _ => rfl
    | 1, _ =>
      refine ⟨_, rfl, by omega, fun j hj => ?_, lA _ (by decide) (by decide)⟩
      rw [cell_blk f3]
      match j, hj with
      | 0, _ | 1, _ | 2, _ | 3, _ | 4, _ | 5, _ | 6, _ | 7, _ | 8, _ => rfl
    | 2, _ =>
      refine ⟨_, rfl, by omega, fun j hj => ?_, lA _ (by decide) (by decide)⟩
      rw [cell_blk f3]
      match j, hj with
      | 0, _ | 1, _ | 2, _ | 3, _ | 4, _ | 5, _ | 6, _ | 7, _ | 8, _ => rfl
  · match i, hi with
    | 0, _ =>
      refine ⟨_, rfl, by omega, fun j hj => ?_, ⟨fun j hj => ⟨_, rfl, by show w.heap.size ≤ w.heap.size + 1 + 1 + 1 + 1; omega, ?_⟩, lA _ (by decide) (by decide), (by decide : (1 : Nat) ≤ 10)⟩⟩
      · rw [cell_blk f6]
        match j, hj with
        | 0, _ | 1, _ | 2, _ | 3, _ | 4, _ | 5, _ | 6, _ | 7, _ => rfl
      · rw [add_block, cell_blk f4]
        match j, hj with
        | 0, _ => rfl
    | 1, _ =>
      refine ⟨_, rfl, by omega, fun j hj => ?_, ⟨fun j hj => ⟨_, rfl, by show w.heap.size ≤ w.heap.size + 1 + 1 + 1 + 1 + 1; omega, ?_⟩, lA _ (by decide) (by decide), (by decide : (1 : Nat) ≤ 10)⟩⟩
      · rw [cell_blk f6]
        match j, hj with
        | 0, _ | 1, _ | 2, _ | 3, _ | 4, _ | 5, _ | 6, _ | 7, _ => rfl
      · rw [add_block, cell_blk f5]
        match j, hj with
        | 0, _ => rfl
end Go.Proofs.YtdlfhldboagbeaaGreatDoor.FrmT
