/- The loop that appends a ring to a form's fields. -/
import Derived.Test.YtdndphagfohpnaaDoorRing
import Derived.Test.YtdndphagfohpnaaDoorNmHas
namespace Go.Proofs.YtdndphagfohpnaaDoor.RgL
open Go.RowKit
open ValM LexM NumM ExM NmM Kit ExL ExP ExN ExC RawV Within RawL RawN GenL Gen GenT GenV FrmM Frm FldP FldR FldC FrmT FrmO TyM Ty TyG NmG NmO NmI NmT NmV NmH RkM RkD CycO RngO
set_option linter.unusedVariables false

def ringE (m i : Nat) : FE := ⟨rnm i, 2, 1, refX (rnm ((i + 1) % m)), none, 0, 0⟩
def ringL (m j : Nat) : List FE := (List.range j).map (ringE m)
theorem ringL_len (m j : Nat) : (ringL m j).length = j := by simp [ringL]
theorem ringL_succ (m j : Nat) : ringL m (j + 1) = ringL m j ++ [ringE m j] := by unfold ringL; rw [List.range_succ, List.map_append]; rfl
theorem ringL_at (m j i : Nat) (h : i < (ringL m j).length) : (ringL m j)[i] = ringE m i := by simp [ringL]
structure RI (w W1 : World) (ob : Option Nat) (es : List FE) (m j : Nat) (v : Value) (wr : World) : Prop where
  own : wr.ownsRow w.heap.size 36 9 v (es.length + j) (feC (es ++ ringL m j))
  grw : W1.grownBy wr ob
  blk : v.ownBlock = ob ∨ ∃ g, v.ownBlock = some g ∧ W1.heap.size ≤ g
theorem RI.step {w W1 wr w6 : World} {ob : Option Nat} {es : List FE} {m j gg cap : Nat} {v : Value} {o : Obj} (h : RI w W1 ob es m j v wr)
    (hown6 : w6.ownsRow w.heap.size 36 9 (.slice (some ⟨gg, 0, none⟩) (es.length + j + 1) cap) (es.length + j + 1) (feC (es ++ ringL m j) ++ fdC (ringE m j).fd)) (hgrow6 : (wr.alloc o).grownBy w6 v.ownBlock) (hat6 : v.ownBlock = some gg ∨ gg = wr.heap.size + 1) : RI w W1 ob es m (j + 1) (.slice (some ⟨gg, 0, none⟩) (es.length + j + 1) cap) w6 := by
  have hs := h.grw.size
  have hs6 := hgrow6.size
  rw [World.size_alloc] at hs6
  refine ⟨?_, ⟨hgrow6.os.trans h.grw.os, hgrow6.tape.trans h.grw.tape, hgrow6.output.trans h.grw.output, by omega, fun k hk hne => ?_⟩, ?_⟩
  · rw [ringL_succ, ← List.append_assoc, feC_snoc]; exact hown6
  · refine (hgrow6.block k (by rw [World.size_alloc]; omega) (fun e => ?_)).trans (((b_new wr o).block k (by omega)).trans (h.grw.block k hk hne))
    rcases h.blk with h1 | ⟨g, h1, h2⟩
    · exact hne (e.trans h1)
    · rw [h1] at e; injection e; omega
  · rcases hat6 with e | e
    · rcases h.blk with h1 | ⟨g, h1, h2⟩
      · exact .inl (e.symm.trans h1)
      · exact .inr ⟨g, e.symm.trans h1, h2⟩
    · exact .inr ⟨gg, rfl, by omega⟩
theorem ring_f {rs : List Rw} {es : List FE} {π : Nat → Nat} {m : Nat} (hB : OfBase rs (es.map FE.fd) (xOf es) π) (h1 : 1 ≤ m) (h4 : m ≤ 4) : RingF rs (es.map FE.fd) (xOf es) π m ((es ++ ringL m m).map FE.fd) (xOf (es ++ ringL m m)) := by
  have hl0 : (es.map FE.fd).length = es.length := List.length_map _
  have hl : (es ++ ringL m m).length = es.length + m := by rw [List.length_append, ringL_len]
  refine ⟨hB, h1, h4, by rw [List.length_map, hl, hl0], fun i h0 h => ?_, fun i hi h => ?_⟩
  · rw [hl0] at h0
    refine ⟨by rw [List.getElem_map, List.getElem_map, List.getElem_append_left h0], ?_⟩
    rw [xOf_at _ _ (by omega), xOf_at _ _ h0, List.getElem_append_left h0]
  · have e : (es ++ ringL m m)[(es.map FE.fd).length + i]'(by rw [hl, hl0]; omega) = ringE m i := by
      rw [List.getElem_append_right (by omega), ringL_at]
      congr 1; omega
    rw [List.getElem_map, xOf_at _ _ (by rw [hl, hl0]; omega), e]
    exact ⟨rfl, rfl, rfl, rfl⟩
/-- What stands in memory behind the loop. -/
theorem RI.done {w wf W1 wr : World} {ob : Option Nat} {es : List FE} {m : Nat} {v : Value} (h : RI w W1 ob es m m v wr) (h1 : 1 ≤ m) (hfo : Forms wf (es.map FE.fd) (xOf es)) (hb : Below wf.heap.size wf W1) (his : ∀ e ∈ es, IsP (fun b => w.heap.size ≤ b ∧ some b ≠ ob) wf e.x e.x.d e.B e.m) (h4 : m ≤ 4) :
    ∃ g cap, v = .slice (some ⟨g, 0, none⟩) ((es ++ ringL m m).map FE.fd).length cap ∧ ((es ++ ringL m m).map FE.fd).length ≤ cap ∧ cap ≤ maxLen ∧ Flds wr (some ⟨g, 0, none⟩) ((es ++ ringL m m).map FE.fd) ∧ Forms wr ((es ++ ringL m m).map FE.fd) (xOf (es ++ ringL m m)) := by
  have hl : ((es ++ ringL m m).map FE.fd).length = es.length + m := by rw [List.length_map, List.length_append, ringL_len]
  have hl2 : (es ++ ringL m m).length = es.length + m := by rw [List.length_append, ringL_len]
  obtain ⟨g, cap, rfl, _, _, h5, h6, hc⟩ := GenL.own_form h.own (by omega)
  refine ⟨g, cap, by rw [hl], by rw [hl]; exact h5, h6, flds_of fun j hj => hc j (by rw [hl2] at hj; exact hj), fun k hk => ?_⟩
  rw [hl] at hk
  rw [List.getElem_map, xOf_at _ _ (by omega)]
  by_cases hk0 : k < es.length
  · have e : (es ++ ringL m m)[k]'(by omega) = es[k] := List.getElem_append_left hk0
    rw [e]
    have hf := hfo k (by rw [List.length_map]; exact hk0)
    rw [List.getElem_map] at hf
    refine ⟨hf.1, IsP.is _ _ _ _ (IsP.keep (Q := fun _ => True) (fun b hb9 hl9 => ?_) (fun _ _ _ => trivial) _ _ _ _ (his _ (List.getElem_mem hk0)))⟩
    exact (h.grw.block b (by have := hb.size; omega) hb9.2).trans (hb.block b hl9)
  · have e : (es ++ ringL m m)[k]'(by omega) = ringE m (k - es.length) := by
      rw [List.getElem_append_right (by omega), ringL_at]
    rw [e]
    have hs : ∀ i, (rnm i).size ≤ maxLen := fun i => by unfold rnm; split <;> decide
    exact ⟨hs _, IsP.is _ _ _ _ (isP_leaf (fun _ => True) wr _ none (show (0 : Nat) ≤ maxLen from Nat.zero_le _) (hs _))⟩
/-! ### the calls on such fields -/
theorem ring_of {rs : List Rw} {fs0 fs : List GenL.Fd} {X0 X : Nat → Ex} {π : Nat → Nat} {m : Nat} (h : RingF rs fs0 X0 π m fs X) (g cap : Nat) (w : World) (hf : Flds w (some ⟨g, 0, none⟩) fs) (hX : Forms w fs X) (hT : Tab w) (hcap : fs.length ≤ cap ∧ cap ≤ maxLen) :
    Calls Tryd.prog 11 #[.slice (some ⟨g, 0, none⟩) fs.length cap] w fun e w' => ∃ g2 c2, e = .returned (.tuple #[.slice none 0 0, .slice (some ⟨g2, 0, none⟩) m c2, .int .i64 10]) ∧ (∀ i, i < m → w'.cell? ⟨g2, i, none⟩ = some (.string (rnm i))) ∧ Below w.heap.size w w' := by
  have hl := h.len
  have hm := h.m1
  refine (of_cyc fs X (some ⟨g, 0, none⟩) cap fs0.length w h.ten.2 hf hX hT hcap h.check (by omega) ?_ (fun j hj => ?_) (fun i j hi hj e => ?_)).mono ?_
  · exact h.rankHi 0 hm
  · have := h.rankLo _ j (Nat.le_refl _) hj
    omega
  · rw [nmF_at _ _ hi, nmF_at _ _ hj] at e
    exact h.inj i j hi hj e
  · rintro e w' ⟨v, rfl, hc, hb⟩
    obtain ⟨g2, c2, rfl, hcell⟩ := h.cyc hc
    exact ⟨g2, c2, rfl, hcell, hb⟩
theorem ring_find {rs : List Rw} {fs0 fs : List GenL.Fd} {X0 X : Nat → Ex} {π : Nat → Nat} {m : Nat} (h : RingF rs fs0 X0 π m fs X) (g cap : Nat) (w : World) (hf : Flds w (some ⟨g, 0, none⟩) fs) (i : Nat) (hi : i < m) :
    Calls Tryd.prog 14 #[.slice (some ⟨g, 0, none⟩) fs.length cap, .string (rnm i)] w fun e w' => e = .returned (.tuple #[.int .i64 (fs0.length + i : Nat), .int .i64 0]) ∧ w = w' := by
  have hl := h.len
  have hk : fs0.length + i < fs.length := by omega
  have := find_any (rnm i) fs (some ⟨g, 0, none⟩) cap w hf (by have := h.ten; omega)
  rw [h.place _ hk _ (h.hi i hi hk).1, if_pos hk, if_pos hk] at this
  exact this
theorem ring_src (es : List FE) (m g i : Nat) (w : World) (hf : Flds w (some ⟨g, 0, none⟩) ((es ++ ringL m m).map FE.fd)) (hi : i < m) :
    (Instr.loadAt 34 (.pointer (some ⟨g, (es.length + i) * 9 + 3, none⟩))).run Tryd.prog w = .ok (.agg #[.int .i64 2, .int .i64 0, .int .i64 0, .string ⟨#[]⟩, .string (rnm ((i + 1) % m)), .slice none 0 0]) w := by
  have hl2 : (es ++ ringL m m).length = es.length + m := by rw [List.length_append, ringL_len]
  obtain ⟨a, ea, h⟩ := hf (es.length + i) (by rw [List.length_map, hl2]; omega)
  obtain rfl : (⟨g, 0, none⟩ : Addr) = a := by injection ea
  have e : (es ++ ringL m m)[es.length + i]'(by omega) = ringE m i := by
    rw [List.getElem_append_right (by omega), ringL_at]
    congr 1; omega
  rw [List.getElem_map, e, Addr.add_lit] at h
  obtain ⟨_, _, _, q3, q4, q5, q6, q7, q8⟩ := h
  unfold ringE FE.fd refX at q3 q4 q5 q6 q7 q8
  simp only [Nat.zero_add] at q3 q4 q5 q6 q7 q8
  simp [go_sem, q3, q4, q5, q6, q7, q8, Ex.d]
theorem ref_has : ∀ k, k < 4 → hasB (Ex.refs (refX (rnm k))) (rnm k) = true := by decide
theorem ring_has (k : Nat) (hk : k < 4) (w : World) : Calls Tryd.prog 13 #[.agg #[.int .i64 2, .int .i64 0, .int .i64 0, .string ⟨#[]⟩, .string (rnm k), .slice none 0 0], .string (rnm k)] w fun e w' => e = .returned (.bool true) ∧ Below w.heap.size w w' := by
  have hs : (rnm k).size ≤ maxLen := by unfold rnm; split <;> decide
  have := has_any (refX (rnm k)) (rnm k) ⟨2, 0, 0, ⟨#[]⟩, rnm k⟩ none 0 0 w (IsP.is _ _ _ _ (isP_leaf (fun _ => True) w _ none (show (0 : Nat) ≤ maxLen from Nat.zero_le _) hs))
  rw [ref_has k hk] at this
  exact this
theorem op_len2 {P : Program} {w : World} {o : Oper} {ρ : Operand → Value} {x : Operand} {t e : TypeId} {A : Option Addr} {n c : Nat} (ho : o.op = .call { callee := .builtin .len, args := #[x], argTypes := #[t] }) (hu : P.underlying t = some (.slice e)) (hx : ρ x = .slice A n c) : (execOp ρ o).run P w = .ok (.value (.int .i64 n)) w := by
  unfold execOp; rw [ho]; simp [resolve, invoke, builtin, hx, go_sem, Builtin.len_, run_underlying hu]
end Go.Proofs.YtdndphagfohpnaaDoor.RgL
