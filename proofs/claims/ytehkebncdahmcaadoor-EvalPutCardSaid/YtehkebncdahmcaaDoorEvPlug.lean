/- For EvalPut: eval.Of over facts by their contents; a formula in the place of a field. -/
import Derived.Test.YtehkebncdahmcaaDoorEvDuo
import Derived.Test.YtehkebncdahmcaaDoorEvFactsN
import Derived.Deep.AppendLies
import Derived.Laws.OwnMore
namespace Go.Proofs.YtehkebncdahmcaaDoor.EvX
open Go.RowKit
open NumM ValM LexM ExM NmM TyM EvM EvP Kit ExL ExP ExV ExN RawL RawN GenL Gen GenE GenT NmG EvC EvO EvF EvG EvH EvK EvW EvJ EvU
set_option linter.unusedVariables false

theorem of_row {V : World} {x : Ex} {d : Nd} {A : Option Addr} {n : Nat} (c : Nat) (his : Is V x d A n) (hck : x.checkE = 0) (hT : Tab V) (l : List Fc) (g cap : Nat) (hl : l.length ≤ 1000) (hnm : ∀ f ∈ l, f.nm.size ≤ maxLen) (hok : ∀ f ∈ fcs l, f.2.ok)
    (hrow : ∃ rest, V.heap[g]? = some (.cells (fcL l ++ rest).toArray 41 (0, 0))) :
    Calls Tryd.prog 5 #[.agg #[.int .i64 d.op, .int .i64 d.k, .int .i64 d.n, .string d.s, .string d.nm, .slice A n c], .slice (some ⟨g, 0, none⟩) l.length cap] V fun e' w' => e' = .returned (.tuple #[.agg #[.int .i64 (Ex.ev (fcs l) x).k, .int .i64 (Ex.ev (fcs l) x).n, .string (Ex.ev (fcs l) x).s], .int .i64 0]) ∧ Below V.heap.size V w' := by
  obtain ⟨rest, hr⟩ := hrow
  exact of_good x l (some ⟨g, 0, none⟩) cap d A n c V (by omega) hnm his (fcs_of hr) hT hck hok
/-- A row of facts in memory, and what may stand behind it. -/
def FRow (V : World) (g : Nat) (l : List Fc) : Prop := ∃ rest, V.heap[g]? = some (.cells (fcL l ++ rest).toArray 41 (0, 0))
theorem FRow.below {V V' : World} {g : Nat} {l : List Fc} (h : FRow V g l) (hb : Below V.heap.size V V') : FRow V' g l := by
  obtain ⟨rest, h⟩ := h
  exact ⟨rest, (hb.block g (Array.getElem?_eq_some_iff.1 h).1).trans h⟩
theorem FRow.of_own {w : World} {B g cap : Nat} {l : List Fc} (h : w.ownsRow B 41 7 (.slice (some ⟨g, 0, none⟩) l.length cap) l.length (fcL l)) : FRow w g l := by
  rcases h.2 with ⟨e, _⟩ | ⟨g', cap', cur, e, _, hc, _, _, _, htk⟩
  · cases e
  · injection e with e1 e2 e3
    injection e1 with e1
    injection e1 with e1
    subst e1
    refine ⟨cur.toList.drop (l.length * 7), ?_⟩
    rw [← htk, List.take_append_drop]; exact hc
theorem FRow.news {w : World} {g : Nat} {l : List Fc} (h : FRow w g l) : ∀ j u, (fcL l)[j]? = some u → w.cell? ((⟨g, 0, none⟩ : Addr).add j) = some u := fun j u hu => by
  obtain ⟨rest, h⟩ := h
  refine World.news_of_block h j u ?_
  have hj : j < (fcL l).length := (List.getElem?_eq_some_iff.1 hu).1
  show (fcL l ++ rest)[j]? = some u
  rw [List.getElem?_append_left hj]; exact hu
theorem fcL_one : ∀ (l : List Fc), ∀ u ∈ fcL l, u.oneCell' = true
  | [], u, h => absurd h (by simp [fcL])
  | f :: l, u, h => by
    rw [fcL, List.mem_append] at h
    rcases h with h | h
    · simp only [fcC, List.mem_cons, List.not_mem_nil, or_false] at h
      rcases h with rfl | rfl | rfl | rfl | rfl | rfl | rfl <;> rfl
    · exact fcL_one l u h
def nFc (v : Vl) : Fc := ⟨nN, 0, 0, ⟨#[]⟩, v⟩
/-- The one fact that the slice literal lays. -/
def FOne (V : World) (b : Nat) (v : Vl) : Prop := V.heap[b]? = some (.cells (fcC (nFc v)).toArray 41 (0, 0))
theorem FOne.lt {V : World} {b : Nat} {v : Vl} (h : FOne V b v) : b < V.heap.size := (Array.getElem?_eq_some_iff.1 h).1
theorem FOne.below {V V' : World} {b : Nat} {v : Vl} (h : FOne V b v) (hb : Below V.heap.size V V') : FOne V' b v := (hb.block b h.lt).trans h
theorem fone_alloc {V : World} {b : Nat} {v : Vl} (h : FOne V b v) (o : Obj) : FOne (V.alloc o) b v := h.below (b_new _ _)
theorem fone_drew {V : World} {b : Nat} {v : Vl} (h : FOne V b v) : FOne V.drew b v := h
theorem fone_at (V : World) (b : Nat) (k n : Int) (s : ByteArray) (hb : V.heap.size = b) : FOne (V.alloc (.cells #[.string ⟨#[110]⟩, .int .i64 0, .int .i64 0, .string ⟨#[]⟩, .int .i64 k, .int .i64 n, .string s] 41)) b ⟨k, n, s⟩ := by subst hb; exact World.alloc_heap_new V _
theorem FOne.own {V : World} {b B : Nat} {v : Vl} (h : FOne V b v) (hB : B ≤ b) : V.ownsRow B 41 7 (.slice (some ⟨b, 0, none⟩) 1 1) 1 (fcC (nFc v)) :=
  ⟨rfl, .inr ⟨b, 1, _, rfl, hB, h, Nat.le_refl _, by unfold maxLen; omega, rfl, rfl⟩⟩
theorem step_six {w : World} {ops : Array Oper} {o : Oper} {a : Act} {K : Act → World → Prop} {Q : Exit → Act → World → Prop} {E : Prop} (hgd : o.guard = none) (s x : Operand) (t : TypeId)
    (ho : o.op = .call { callee := .builtin .append, args := #[s, x], argTypes := #[t, t] }) (ht : Tryd.prog.underlying t = some (.slice 41)) (Y : World) (b : Nat) (v : Vl) (hs : a.eval s = .slice (some ⟨b, 0, none⟩) 1 1) (h1 : FOne w b v) (hB : Y.heap.size ≤ b) (hY : Below Y.heap.size Y w)
    (g1 c1 : Nat) (l : List Fc) (hl : l.length = 5) (hx : a.eval x = .slice (some ⟨g1, 0, none⟩) 5 c1) (h5 : FRow w g1 l)
    (h : ∀ g cap w', FRow w' g (nFc v :: l) → Below Y.heap.size Y w' → (∀ d k n s, BV w d k n s → d ≠ b → BV w' d k n s) → K (a.put o.dst (.slice (some ⟨g, 0, none⟩) 6 cap)) w') :
    if Region.wanted o (yielded ops a.tmps) = true then Oper.wp Tryd.prog o a w K Q else E := by
  obtain ⟨i0, hi, hz0, hz1, hz2⟩ := info_parts infoFc
  refine step_append_lies w hgd s x t ho Y.heap.size 41 i0 _ 7 80 ht hi hz0 hz1 hz2 rfl (by omega) (.slice (some ⟨b, 0, none⟩) 1 1) 1 (fcC (nFc v)) hs (h1.own hB) ⟨g1, 0, none⟩ 5 c1 (fcL l) hx (by rw [fcL_len, hl]) h5.news (fcL_one l) (by omega) (by unfold maxLen; omega) (by omega) hY.size _ rfl ?_
  intro g cap w' hown hgr hor hlt
  have hgr : w.grownBy w' (some b) := hgr
  refine h g cap w' (FRow.of_own (l := nFc v :: l) (B := Y.heap.size) (cap := cap) ?_) ?_ ?_
  · rw [show (nFc v :: l).length = 6 by simp [hl]]; exact hown
  · exact ⟨hgr.os.trans hY.os, hgr.tape.trans hY.tape, hgr.output.trans hY.output, Nat.le_trans hY.size hgr.size, fun c hc => (hgr.block c (Nat.lt_of_lt_of_le hc hY.size) (fun e => by injection e; omega)).trans (hY.block c hc)⟩
  · exact fun d k n s hd hne => (hgr.block d hd.lt (fun e => by injection e; omega)).trans hd
theorem factsV_fits (rs : List Rw) : Fits5 (factsV rs 5) := ⟨factsV_len rs 5, factsV_ok rs 5 (Nat.le_refl _)⟩
theorem plug (vs : List Fc) (x y : Ex) : Ex.ev (fcs vs) (Ex.put nN y x) = Ex.ev (fcs (nFc (Ex.ev (fcs vs) y) :: vs)) x := by
  rw [ev_put]; rfl
theorem six_names {vs : List Fc} (h : Fits5 vs) (v : Vl) : ∀ f ∈ nFc v :: vs, f.nm.size ≤ maxLen := fun f hf => by
  rcases List.mem_cons.1 hf with rfl | hf
  · exact (by decide : nN.size ≤ maxLen)
  · exact h.names f hf
theorem six_ok {vs : List Fc} (h : Fits5 vs) {v : Vl} (hv : v.ok) : ∀ f ∈ fcs (nFc v :: vs), f.2.ok := fun f hf => by
  have hf : f ∈ (nN, v) :: fcs vs := hf
  rcases List.mem_cons.1 hf with rfl | hf
  · exact hv
  · exact h.ok f hf
end Go.Proofs.YtehkebncdahmcaaDoor.EvX
