/- The reference's copy of a form: the pages. -/
import Derived.Test.YtdlfhldboagbeaaGreatDoorPgCopy
import Derived.Test.YtdlfhldboagbeaaGreatDoorNmSwap
import Derived.Deep.AppendLies
import Derived.Deep.RegionLaw
import Derived.Deep.RegionHeld3
import Derived.Test.YtdlfhldboagbeaaGreatDoorReg
namespace Go.Proofs.YtdlfhldboagbeaaGreatDoor.FmC
open Go.RowKit
open ValM LexM NumM ExM NmM Kit ExL ExP NmC NmP NmR NmA NmT RawV Within GenL FldP FrmM PgM PgC RegI
set_option linter.unusedVariables false

/-- append(nil, l...): the texts of l in a row of their own, or nil. -/
theorem step_append_copy {P : Program} {w : World} {ops : Array Oper} {o : Oper} {a : Act} {K : Act → World → Prop} {Q : Exit → Act → World → Prop} {E : Prop} (hgd : o.guard = none) (s x : Operand) (t : TypeId)
    (ho : o.op = .call { callee := .builtin .append, args := #[s, x], argTypes := #[t, t] }) (e : TypeId) (i : TypeInfo) (z : Value) (ht : P.underlying t = some (.slice e)) (hi : P.info? e = some i) (hz : i.zero = some z)
    (hsize : i.size = 1) (hby : i.bytes = 16) (hzs : z.cells.size = 1) (L : List ByteArray) (A : Option Addr) (c : Nat) (hs : a.eval s = .slice none 0 0) (hx : a.eval x = .slice A L.length c) (hr : TRow w A L) (hl : L.length ≤ 1048576)
    (h : ∀ F fc w', w'.ownsRow w.heap.size e 1 (.slice F L.length fc) L.length (strV L) → Below w.heap.size w w' → K (a.put o.dst (.slice F L.length fc)) w') :
    if Region.wanted o (yielded ops a.tmps) = true then Oper.wp P o a w K Q else E := by
  have hw : Region.wanted o (yielded ops a.tmps) = true := by simp [Region.wanted, hgd]
  rw [if_pos hw]
  by_cases hz0 : L.length = 0
  · have hnil : L = [] := List.eq_nil_of_length_eq_zero hz0
    subst hnil
    have hsrc : Src P i.size t (.slice A 0 c) 0 [] w := by
      cases A with
      | none => exact Src.ofNil w ht c
      | some ad => exact Src.ofSlice w ht ad 0 c [] (by simp) (fun j u h => by simp at h) (fun u h => by cases h)
    have hrun := run_append_nothing (P := P) w t t o.type e i ht hi none 0 0 (Nat.le_refl _) (.slice A 0 c) hsrc
    have hx0 : a.eval x = .slice A 0 c := hx
    unfold Oper.wp
    simp [execOp, ho, resolve, invoke, builtin, hs, hx0, hrun, Result.andThen]
    exact h none 0 w (World.ownsRow_nil _ _ _ _) (Below.refl _ _)
  · have hpos : 0 < L.length := by omega
    obtain ⟨a2, rfl, _⟩ := hr 0 hpos
    have hnews : ∀ j u, (strV L)[j]? = some u → w.cell? (a2.add j) = some u := fun j u hu => by
      unfold strV at hu
      rw [List.getElem?_map] at hu
      have hj : j < L.length := by
        rcases Nat.lt_or_ge j L.length with h | h
        · exact h
        · rw [List.getElem?_eq_none h] at hu; cases hu
      rw [List.getElem?_eq_getElem hj] at hu
      injection hu with hu
      obtain ⟨a3, e3, hc⟩ := hr j hj
      injection e3 with e3
      subst e3 hu
      exact hc
    obtain ⟨g, cap, w', hr2, h2, h3, h4, h5⟩ := run_append_lies (P := P) w t o.type w.heap.size e i z 1 16 ht hi hz hsize hby hzs (by decide) (.slice none 0 0) 0 [] (World.ownsRow_nil _ _ _ _) a2 L.length c (strV L) (by rw [strV_len, Nat.mul_one]) hnews strV_one hpos (by unfold maxLen; omega) (by omega) (Nat.le_refl _) w.heap.size rfl
    rw [List.nil_append, Nat.zero_add] at h2
    rw [Nat.zero_add] at hr2
    unfold Oper.wp execOp
    simp only [ho, resolve, invoke, builtin, Sem.run_bind, Sem.run_pure, Result.andThen_ok, List.map_toArray, List.map_cons, List.map_nil, hs, hx, hr2]
    exact h _ _ _ h2 ⟨h3.os, h3.tape, h3.output, h3.size, fun b hb => h3.block b hb (by simp [Value.ownBlock])⟩
theorem step_load {P : Program} {w : World} {ops : Array Oper} {o : Oper} {a : Act} {K : Act → World → Prop} {Q : Exit → Act → World → Prop} {E : Prop} (hgd : o.guard = none) (t : TypeId) (x : Operand) (ho : o.op = .load t x) (p v : Value) (hx : a.eval x = p)
    (hrun : (Instr.loadAt t p).run P w = .ok v w) (h : K (a.put o.dst v) w) : if Region.wanted o (yielded ops a.tmps) = true then Oper.wp P o a w K Q else E := by
  have hw : Region.wanted o (yielded ops a.tmps) = true := by simp [Region.wanted, hgd]
  rw [if_pos hw]
  unfold Oper.wp
  simp only [execOp, ho, hx, Sem.run_bind, hrun, Result.andThen_ok, Sem.run_pure]
  exact h
/-- A row of texts in blocks of P. -/
def SRowP (P : Nat → Prop) (w : World) (A : Option Addr) (L : List ByteArray) : Prop := ∀ (j : Nat) (h : j < L.length), ∃ g, A = some ⟨g, 0, none⟩ ∧ P g ∧ w.cell? ⟨g, j, none⟩ = some (.string L[j])
theorem SRowP.keep {P Q : Nat → Prop} {w w' : World} {A : Option Addr} {L : List ByteArray} (h : SRowP P w A L) (hk : ∀ b, P b → b < w.heap.size → w'.heap[b]? = w.heap[b]?) (hq : ∀ b, P b → b < w.heap.size → Q b) : SRowP Q w' A L := fun j hj => by
  obtain ⟨g, e, hp, hc⟩ := h j hj
  have hl : g < w.heap.size := cell_lt' hc
  exact ⟨g, e, hq _ hp hl, (World.cell?_of_block (a := ⟨g, j, none⟩) (hk _ hp hl)).trans hc⟩
theorem SRowP.below {P : Nat → Prop} {w w' : World} {A : Option Addr} {L : List ByteArray} (h : SRowP P w A L) (hb : Below w.heap.size w w') : SRowP P w' A L := h.keep (fun b _ hl => hb.block b hl) (fun b hp _ => hp)
theorem SRowP.srow {P : Nat → Prop} {w : World} {A : Option Addr} {L : List ByteArray} (h : SRowP P w A L) : SRow w A L := fun j hj => by
  obtain ⟨g, e, _, hc⟩ := h j hj
  exact ⟨g, e, hc⟩
theorem SRowP.of_own {w : World} {base B : Nat} {A : Option Addr} {c : Nat} {L : List ByteArray} (h : w.ownsRow base 9 1 (.slice A L.length c) L.length (strV L)) (hB : B ≤ base) : SRowP (fun b => B ≤ b) w A L := fun j hj => by
  obtain ⟨A', c', e, hr⟩ := SRow.of_own h
  injection e with e1 e2 e3
  subst e1
  obtain ⟨g, e4, hc⟩ := hr j hj
  subst e4
  exact ⟨g, rfl, Nat.le_trans hB (h.lt g rfl).1, hc⟩
structure QIs (P : Nat → Prop) (w : World) (e : PE) : Prop where
  str : SRowP P w e.F e.fs
  skip : IsP P w e.x e.x.d e.B e.m
theorem QIs.keep {P Q : Nat → Prop} {w w' : World} {e : PE} (h : QIs P w e) (hk : ∀ b, P b → b < w.heap.size → w'.heap[b]? = w.heap[b]?) (hq : ∀ b, P b → b < w.heap.size → Q b) : QIs Q w' e :=
  ⟨h.str.keep hk hq, IsP.keep hk hq _ _ _ _ h.skip⟩
/-- Between two pages. -/
structure ZI (w : World) (B3 : Nat) (fv : Value) (qs : List PE) (k : Nat) (es : List PE) (u : Value) (wr : World) : Prop where
  le : k ≤ qs.length
  len : es.length = k
  val : ∀ (i : Nat) (h : i < es.length) (h2 : i < qs.length), es[i].nm = qs[i].nm ∧ es[i].fs = qs[i].fs ∧ es[i].x = qs[i].x
  own : wr.ownsRow (B3 + 1) 62 8 u k (peC es)
  is : ∀ e ∈ es, QIs (fun b => B3 + 1 ≤ b ∧ some b ≠ u.ownBlock) wr e
  box : wr.heap[B3]? = some (.cells #[fv, u] 25 (0, 0))
  below : Below w.heap.size w wr
  ge : w.heap.size ≤ B3
theorem ZI.step {w : World} {B3 : Nat} {fv : Value} {qs : List PE} {k : Nat} {es : List PE} {u : Value} {wr V W6 : World} {e : PE} {gg cap : Nat} (h : ZI w B3 fv qs k es u wr) (hk : k < qs.length) (he : e.nm = qs[k].nm ∧ e.fs = qs[k].fs ∧ e.x = qs[k].x) (hb : Below wr.heap.size wr V) (hise : QIs (fun b => wr.heap.size ≤ b) V e)
    (hown6 : W6.ownsRow (B3 + 1) 62 8 (.slice (some ⟨gg, 0, none⟩) (k + 1) cap) (k + 1) (peC es ++ pgC e)) (hgrow6 : V.grownBy W6 u.ownBlock) (hat6 : u.ownBlock = some gg ∨ gg = V.heap.size) :
    ZI w B3 fv qs (k + 1) (es ++ [e]) (.slice (some ⟨gg, 0, none⟩) (k + 1) cap) (W6.setCell ⟨B3, 1, none⟩ (.slice (some ⟨gg, 0, none⟩) (k + 1) cap)) := by
  have hs := hb.size
  have hbs := h.below.size
  have hge := h.ge
  have hgg : B3 + 1 ≤ gg := (hown6.lt gg rfl).1
  have hB3 : B3 < wr.heap.size := (Array.getElem?_eq_some_iff.1 h.box).1
  have hge : Value.ownBlock (.slice (some ⟨gg, 0, none⟩) (k + 1) cap) = some gg := rfl
  have hov : ∀ g, u.ownBlock = some g → B3 + 1 ≤ g ∧ g < wr.heap.size := fun g hg => h.own.lt g hg
  have f5 : ∀ b, b < V.heap.size → some b ≠ u.ownBlock → b ≠ B3 → (W6.setCell ⟨B3, 1, none⟩ (.slice (some ⟨gg, 0, none⟩) (k + 1) cap)).heap[b]? = V.heap[b]? := fun b hl hne hx =>
    (Below.heap_setCell W6 ⟨B3, 1, none⟩ _ b hx).trans (hgrow6.block _ hl hne)
  have hB3u : some B3 ≠ u.ownBlock := fun e => by have := hov B3 e.symm; omega
  refine ⟨hk, by simp [h.len], fun i hi1 hi2 => ?_, ?_, fun q hq => ?_, ?_, ?_, h.ge⟩
  · by_cases hie : i < es.length
    · rw [List.getElem_append_left hie]; exact h.val i hie hi2
    · have e9 : i = es.length := by simp at hi1; omega
      subst e9
      have hkk := h.len
      subst hkk
      simp only [List.getElem_concat_length]
      exact he
  · rw [peC_snoc]
    refine World.ownsRow.kept (row := some B3) hown6 ⟨rfl, rfl, rfl, by simp [World.setCell], fun k _ hk => Below.heap_setCell _ _ _ k (fun e => hk (by rw [e]))⟩ (.inr ?_)
    rw [hge]; intro e; injection e with e; omega
  · rcases List.mem_append.1 hq with hq | hq
    · refine (h.is q hq).keep (fun b hb2 hl => (f5 b (by omega) hb2.2 (by have := hb2.1; omega)).trans (hb.block b hl)) (fun b hb2 hl => ⟨hb2.1, ?_⟩)
      rw [hge]; intro e; injection e with e
      rcases hat6 with g | g
      · exact hb2.2 (by rw [g, e])
      · omega
    · simp at hq; subst hq
      refine hise.keep (fun b hb2 hl => ?_) (fun b hb2 hl => ⟨?_, ?_⟩)
      · have hb' : wr.heap.size ≤ b := hb2
        exact f5 b hl (fun e => by have := (hov b e.symm).2; omega) (by omega)
      · have hb' : wr.heap.size ≤ b := hb2
        omega
      · have hb' : wr.heap.size ≤ b := hb2
        rw [hge]; intro e; injection e with e
        rcases hat6 with g | g
        · have := (hov gg g).2; omega
        · omega
  · have h6 : W6.heap[B3]? = _ := ((hgrow6.block B3 (by omega) hB3u).trans (hb.block B3 hB3)).trans h.box
    exact blk_set h6 1 _
  · refine ⟨?_, ?_, ?_, ?_, fun b hb9 => ?_⟩
    · exact hgrow6.os.trans (hb.os.trans h.below.os)
    · exact hgrow6.tape.trans (hb.tape.trans h.below.tape)
    · exact hgrow6.output.trans (hb.output.trans h.below.output)
    · have h2 := hgrow6.size
      simp [World.setCell] at h2 ⊢; omega
    · have h9 : b < wr.heap.size := by omega
      exact (f5 b (by omega) (fun e => by have := (hov b e.symm).1; omega) (by omega)).trans ((hb.block b h9).trans (h.below.block b hb9))
/-! ### the region that appends -/
theorem slice_pg (w : World) (nm s t : ByteArray) (F B : Option Addr) (n fq m c : Nat) (a b c0 : Int) : (Instr.buildSlice 23 1 #[(0, .agg #[.string nm, .slice F n fq, .int .i64 a, .int .i64 b, .int .i64 c0, .string s, .string t, .slice B m c])]).run Tryz.prog w = .ok (.slice (some ⟨w.heap.size, 0, none⟩) 1 1) (w.alloc (.cells #[.string nm, .slice F n fq, .int .i64 a, .int .i64 b, .int .i64 c0, .string s, .string t, .slice B m c] 62)) := by kernel_rfl
theorem build_pg (w : World) (nm s t : ByteArray) (F B : Option Addr) (n fq m c : Nat) (a b c0 : Int) : (Instr.build 62 #[(0, .string nm), (1, .slice F n fq), (2, .agg #[.int .i64 a, .int .i64 b, .int .i64 c0, .string s, .string t, .slice B m c])]).run Tryz.prog w = .ok (.agg #[.string nm, .slice F n fq, .int .i64 a, .int .i64 b, .int .i64 c0, .string s, .string t, .slice B m c]) w := by kernel_rfl
def VZ (S B3 B5 : Nat) (u : Value) (e : PE) : Nat → Value → World → Prop
  | 0, v, _ => v = .pointer (some ⟨B3, 1, none⟩)
  | 1, v, _ => v = u
  | 2, v, _ => v = .pointer (some ⟨B5, 0, none⟩)
  | 3, v, _ => v = .string e.nm
  | 4, v, _ => v = .pointer (some ⟨B5, 1, none⟩)
  | 5, v, _ => v = .slice e.F e.fs.length e.fc
  | 6, v, w => ∃ F fq, v = .slice F e.fs.length fq ∧ SRowP (fun b => S ≤ b) w F e.fs
  | 7, v, _ => v = .pointer (some ⟨B5, 2, none⟩)
  | 8, v, _ => v = .agg #[.int .i64 e.x.d.op, .int .i64 e.x.d.k, .int .i64 e.x.d.n, .string e.x.d.s, .string e.x.d.nm, .slice e.B e.m e.c]
  | 9, v, w => ∃ B m c, v = .agg #[.int .i64 e.x.d.op, .int .i64 e.x.d.k, .int .i64 e.x.d.n, .string e.x.d.s, .string e.x.d.nm, .slice B m c] ∧ IsP (fun b => S ≤ b) w e.x e.x.d B m
  | 10, v, w => ∃ F fq B m c, v = .agg #[.string e.nm, .slice F e.fs.length fq, .int .i64 e.x.d.op, .int .i64 e.x.d.k, .int .i64 e.x.d.n, .string e.x.d.s, .string e.x.d.nm, .slice B m c] ∧ SRowP (fun b => S ≤ b) w F e.fs ∧ IsP (fun b => S ≤ b) w e.x e.x.d B m
  | 11, v, w => ∃ b F fq B m c, v = .slice (some ⟨b, 0, none⟩) 1 1 ∧ w.heap[b]? = some (.cells #[.string e.nm, .slice F e.fs.length fq, .int .i64 e.x.d.op, .int .i64 e.x.d.k, .int .i64 e.x.d.n, .string e.x.d.s, .string e.x.d.nm, .slice B m c] 62 (0, 0)) ∧ SRowP (fun b => S ≤ b) w F e.fs ∧ IsP (fun b => S ≤ b) w e.x e.x.d B m
  | 13, v, _ => v = .pointer (some ⟨B3, 1, none⟩)
  | _, _, _ => False
theorem isP_below {P : Nat → Prop} {w w' : World} {x : Ex} {d : Nd} {B : Option Addr} {m : Nat} (h : IsP P w x d B m) (hb : Below w.heap.size w w') : IsP P w' x d B m := IsP.keep (fun b _ hl => hb.block b hl) (fun b hp _ => hp) _ _ _ _ h
theorem VZ.mono (S B3 B5 : Nat) (u : Value) (e : PE) : ∀ i v w w', Below w.heap.size w w' → VZ S B3 B5 u e i v w → VZ S B3 B5 u e i v w' := fun i v w w' hb h => by
  match i, h with
  | 6, ⟨F, fq, h1, h2⟩ => exact ⟨F, fq, h1, h2.below hb⟩
  | 9, ⟨B, m, c, h1, h2⟩ => exact ⟨B, m, c, h1, isP_below h2 hb⟩
  | 10, ⟨F, fq, B, m, c, h1, h2, h3⟩ => exact ⟨F, fq, B, m, c, h1, h2.below hb, isP_below h3 hb⟩
  | 11, ⟨b, F, fq, B, m, c, h1, h0, h2, h3⟩ => exact ⟨b, F, fq, B, m, c, h1, (hb.block _ (Array.getElem?_eq_some_iff.1 h0).1).trans h0, h2.below hb, isP_below h3 hb⟩
  | 0, h | 1, h | 2, h | 3, h | 4, h | 5, h | 7, h | 8, h | 13, h => exact h
  | 12, h => exact h.elim
  | i + 14, h => exact h.elim
def DP : Nat → List Nat
  | 1 => [0] | 3 => [2] | 5 => [4] | 6 => [5] | 8 => [7] | 9 => [8] | 10 => [3, 6, 9] | 11 => [10] | _ => []
/-- Ahead of the append; behind it; behind the store. -/
def JN (W0 : World) (V : Nat → Value → World → Prop) (Mid : Value → World → Prop) (Fin : World → Prop) (pt : Value) (D : Nat → Bool) (f : Nat → Value) (w : World) : Prop :=
  (D 12 = false ∧ D 14 = false ∧ Below W0.heap.size W0 w ∧ (∀ i, i < 14 → i ≠ 12 → D i = true → V i (f i) w) ∧ ∀ i j, D i = true → j ∈ DP i → D j = true) ∨
  (D 12 = true ∧ D 14 = false ∧ (∀ i, i < 12 → D i = true) ∧ Mid (f 12) w ∧ (D 13 = true → f 13 = pt)) ∨
  (D 14 = true ∧ (∀ i, i < 14 → D i = true) ∧ Fin w)
section
variable {W0 : World} {V : Nat → Value → World → Prop} {Mid : Value → World → Prop} {Fin : World → Prop} {pt : Value} {D : Nat → Bool} {f : Nat → Value} {w w' : World}
theorem jn_start {W : World} (h : Below W0.heap.size W0 W) (f : Nat → Value) : JN W0 V Mid Fin pt (fun _ => false) f W.drew :=
  .inl ⟨rfl, rfl, ⟨h.os, h.tape, h.output, h.size, h.block⟩, fun i _ _ h => by simp at h, fun i _ h => by simp at h⟩
theorem jn_live (h : JN W0 V Mid Fin pt D f w) {i : Nat} (hi : i ≤ 12) (hD : D i = false) : D 12 = false ∧ D 14 = false ∧ Below W0.heap.size W0 w ∧ (∀ i, i < 14 → i ≠ 12 → D i = true → V i (f i) w) ∧ ∀ i j, D i = true → j ∈ DP i → D j = true := by
  rcases h with h | ⟨h1, h2, h3, _⟩ | ⟨h1, h2, _⟩
  · exact h
  · rcases Nat.lt_or_eq_of_le hi with hi | rfl
    · rw [h3 i hi] at hD; cases hD
    · rw [h1] at hD; cases hD
  · rw [h2 i (by omega)] at hD; cases hD
theorem jn_step (hm : ∀ i v w w', Below w.heap.size w w' → V i v w → V i v w') (h : JN W0 V Mid Fin pt D f w) {i : Nat} (hi : i < 12) (hD : D i = false) {v : Value} (hb : Below w.heap.size w w') (hV : V i v w') (hdp : ∀ j ∈ DP i, D j = true) : JN W0 V Mid Fin pt (upd D i) (updf f i v) w' := by
  obtain ⟨h1, h2, h3, h4, h9⟩ := jn_live h (Nat.le_of_lt hi) hD
  refine .inl ⟨by rw [upd_ne _ _ _ (by omega)]; exact h1, by rw [upd_ne _ _ _ (by omega)]; exact h2, h3.trans (hb.mono h3.size), fun j hj hj2 hDj => ?_, fun a b ha hb2 => ?_⟩
  rotate_left
  · by_cases e : a = i
    · subst e; have := hdp b hb2; by_cases e2 : b = a
      · subst e2; exact upd_at _ _
      · rw [upd_ne _ _ _ e2]; exact this
    · rw [upd_ne _ _ _ e] at ha
      by_cases e2 : b = i
      · subst e2; exact upd_at _ _
      · rw [upd_ne _ _ _ e2]; exact h9 a b ha hb2
  by_cases e : j = i
  · subst e; rw [updf_at]; exact hV
  · rw [updf_ne _ _ _ _ e]; rw [upd_ne _ _ _ e] at hDj; exact hm _ _ _ _ hb (h4 j hj hj2 hDj)
theorem jn_13 (h : JN W0 V Mid Fin pt D f w) (hD : D 13 = false) (hV : V 13 pt w) : JN W0 V Mid Fin pt (upd D 13) (updf f 13 pt) w := by
  rcases h with ⟨h1, h2, h3, h4, h9⟩ | ⟨h1, h2, h3, h4, h5⟩ | ⟨h1, h2, _⟩
  · refine .inl ⟨by rw [upd_ne _ _ _ (by omega)]; exact h1, by rw [upd_ne _ _ _ (by omega)]; exact h2, h3, fun j hj hj2 hDj => ?_, fun a b ha hb2 => ?_⟩
    · by_cases e : j = 13
      · subst e; rw [updf_at]; exact hV
      · rw [updf_ne _ _ _ _ e]; rw [upd_ne _ _ _ e] at hDj; exact h4 j hj hj2 hDj
    · by_cases e : a = 13
      · subst e; simp [DP] at hb2
      · rw [upd_ne _ _ _ e] at ha
        by_cases e2 : b = 13
        · subst e2; exact upd_at _ _
        · rw [upd_ne _ _ _ e2]; exact h9 a b ha hb2
  · refine .inr (.inl ⟨by rw [upd_ne _ _ _ (by omega)]; exact h1, by rw [upd_ne _ _ _ (by omega)]; exact h2, fun j hj => by rw [upd_ne _ _ _ (by omega)]; exact h3 j hj, by rw [updf_ne _ _ _ _ (by omega)]; exact h4, fun _ => updf_at _ _ _⟩)
  · rw [h2 13 (by omega)] at hD; cases hD
theorem jn_12 (h : JN W0 V Mid Fin pt D f w) (hD : D 12 = false) (hall : ∀ i, i < 12 → D i = true) (hpt : ∀ v w, V 13 v w → v = pt) {v : Value} (hM : Mid v w') : JN W0 V Mid Fin pt (upd D 12) (updf f 12 v) w' := by
  obtain ⟨h1, h2, h3, h4, h9⟩ := jn_live h (Nat.le_refl _) hD
  refine .inr (.inl ⟨upd_at _ _, by rw [upd_ne _ _ _ (by omega)]; exact h2, fun j hj => by rw [upd_ne _ _ _ (by omega)]; exact hall j hj, by rw [updf_at]; exact hM, fun h13 => ?_⟩)
  rw [upd_ne _ _ _ (by omega)] at h13
  rw [updf_ne _ _ _ _ (by omega)]
  exact hpt _ _ (h4 13 (by omega) (by omega) h13)
theorem jn_14 (h : JN W0 V Mid Fin pt D f w) (hD : D 14 = false) (h12 : D 12 = true) (h13 : D 13 = true) : Mid (f 12) w ∧ f 13 = pt ∧ (Fin w' → JN W0 V Mid Fin pt (upd D 14) f w') := by
  rcases h with ⟨h1, _⟩ | ⟨h1, h2, h3, h4, h5⟩ | ⟨h1, _⟩
  · rw [h1] at h12; cases h12
  · refine ⟨h4, h5 h13, fun hF => .inr (.inr ⟨upd_at _ _, fun j hj => ?_, hF⟩)⟩
    rw [upd_ne _ _ _ (by omega)]
    by_cases e : j = 12
    · subst e; exact h1
    · by_cases e2 : j = 13
      · subst e2; exact h13
      · exact h3 j (by omega)
  · rw [h1] at hD; cases hD
theorem jn_end (h : JN W0 V Mid Fin pt D f w) (hD : D 14 = true) : Fin w := by
  rcases h with ⟨_, h1, _⟩ | ⟨_, h1, _⟩ | ⟨_, _, h⟩
  · rw [h1] at hD; cases hD
  · rw [h1] at hD; cases hD
  · exact h
end
theorem own_pgs {w : World} {base k : Nat} {v : Value} {es : List PE} (h : w.ownsRow base 62 8 v k (peC es)) (hk : es.length = k) : ∃ A c, v = .slice A es.length c ∧ Pgs w A es := by
  subst hk
  rcases Nat.eq_zero_or_pos es.length with h0 | h0
  · obtain ⟨A, c, e⟩ := GenL.own_slice h
    exact ⟨A, c, e, fun i hi => absurd hi (by omega)⟩
  · obtain ⟨g, cap, e, _, _, _, _, hc⟩ := GenL.own_form h h0
    refine ⟨_, cap, e, fun i hi => ⟨_, rfl, ?_⟩⟩
    rw [add_block]
    have hc : ∀ j, j < 8 → w.cell? ⟨g, i * 8 + j, none⟩ = (pgC es[i])[j]? := fun j hj => (hc _ (by omega)).trans (peC_at es i j hi hj)
    exact ⟨hc 0 (by decide), hc 1 (by decide), hc 2 (by decide), hc 3 (by decide), hc 4 (by decide), hc 5 (by decide), hc 6 (by decide), hc 7 (by decide)⟩
/-- A block of two cells holds no formula and no field. -/
theorem two_is {w w' : World} {B : Nat} (h2 : ∀ j, w.cell? ⟨B, j + 2, none⟩ = none) (hk : ∀ b, b ≠ B → w'.heap[b]? = w.heap[b]?) : ∀ (x : Ex) (d : Nd) (A : Option Addr) (n : Nat), Is w x d A n → Is w' x d A n := by
  refine Ex.ind fun d l ih => ?_
  intro d' A n hi
  rw [is_mk] at hi ⊢
  obtain ⟨h1, h3, h4, h5⟩ := hi
  refine ⟨h1, h3, h4, fun j hj => ?_⟩
  obtain ⟨a, d2, A2, m, c, e, ha, hi⟩ := h5 j hj
  refine ⟨a, d2, A2, m, c, e, ?_, ih _ (List.getElem_mem _) _ _ _ hi⟩
  have hb : w'.heap[(a.add (j * 6)).block]? = w.heap[(a.add (j * 6)).block]? := hk _ (fun e => by
    have h6 := ha.2.2.1
    rw [e, h2] at h6; cases h6)
  exact ha.keep fun p hp => World.cell?_of_block (by rw [hp]; exact hb)
theorem two_flds {w w' : World} {B : Nat} {A : Option Addr} {fs : List GenL.Fd} (h2 : ∀ j, w.cell? ⟨B, j + 2, none⟩ = none) (hk : ∀ b, b ≠ B → w'.heap[b]? = w.heap[b]?) (h : Flds w A fs) : Flds w' A fs := fun i hi => by
  obtain ⟨ad, e, hf⟩ := h i hi
  refine ⟨ad, e, hf.of_block (hk _ (fun e => ?_))⟩
  have h6 := hf.2.2.1
  rw [e, h2] at h6; cases h6
/-- A copy of a form: the pages. -/
def FOut (Q : Option Addr → Nat → Nat → World → Prop) (ps : List PE) (w : World) (r : Ending) (w' : World) : Prop :=
  ∃ (FA : Option Addr) (fn fc : Nat) (es : List PE) (A : Option Addr) (c : Nat), r = .returned (.agg #[.slice FA fn fc, .slice A es.length c]) ∧ es.length = ps.length ∧ (∀ (i : Nat) (h : i < es.length) (h2 : i < ps.length), es[i].nm = ps[i].nm ∧ es[i].fs = ps[i].fs ∧ es[i].x = ps[i].x) ∧ Pgs w' A es ∧ (∀ e ∈ es, SRow w' e.F e.fs ∧ Is w' e.x e.x.d e.B e.m) ∧ Below w.heap.size w w' ∧ Q FA fn fc w'
set_option maxRecDepth 100000 in
set_option maxHeartbeats 16000000 in
theorem formCopy_any (Q : Option Addr → Nat → Nat → World → Prop) (hQ1 : ∀ A n c a b, Below a.heap.size a b → Q A n c a → Q A n c b) (hQ2 : ∀ A n c a b B, (∀ j, a.cell? ⟨B, j + 2, none⟩ = none) → (∀ x, x ≠ B → b.heap[x]? = a.heap[x]?) → Q A n c a → Q A n c b) (FA : Option Addr) (fn fc : Nat) (ps : List PE) (PA : Option Addr) (pc : Nat) (w : World) (hm : ps.length ≤ 1048576) (hp : Pgs w PA ps) (ho : PgsOk w ps) (hlp : ∀ e ∈ ps, e.fs.length ≤ 1048576 ∧ e.x.nodes ≤ 1048576)
    (hF : ∀ V, Below w.heap.size w V → Calls Tryz.prog 29 #[.slice FA fn fc] V fun r w' => (∃ A n c, r = .returned (.slice A n c) ∧ Q A n c w') ∧ Below V.heap.size V w') :
    Calls Tryz.prog 9 #[.agg #[.slice FA fn fc, .slice PA ps.length pc]] w (FOut Q ps w) := by
  obtain ⟨i0, hi, hz0, hz1, hz2⟩ := info_parts infoPg
  obtain ⟨s0, hsi, hsz0, hsz1, hsz2⟩ := info_parts NmA.infoStr
  have HP := Lib.hid hp
  have HO := Lib.hid ho
  have HLp := Lib.hid hlp
  have HF := Lib.hid hF
  have HQc := Lib.hid (And.intro hQ1 hQ2)
  obtain ⟨W2, hW2⟩ : ∃ V, (w.alloc (.cells #[.slice FA fn fc, .slice PA ps.length pc] 25)).alloc (.cells #[.slice none 0 0, .slice none 0 0] 25) = V := ⟨_, rfl⟩
  obtain ⟨B1, hB1⟩ : ∃ B, w.heap.size = B := ⟨_, rfl⟩
  have hb2 : Below w.heap.size w W2 := by rw [← hW2]; exact b_more (b_new w _) _
  have hk1 : W2.heap[B1]? = some (.cells #[.slice FA fn fc, .slice PA ps.length pc] 25 (0, 0)) := by
    rw [← hW2, ← hB1, (b_new (w.alloc _) _).block _ (by simp)]
    exact World.alloc_heap_new w _
  have hk2 : W2.heap[B1 + 1]? = some (.cells #[.slice none 0 0, .slice none 0 0] 25 (0, 0)) := by
    rw [← hW2, ← hB1]
    have := World.alloc_heap_new (w.alloc (.cells #[.slice FA fn fc, .slice PA ps.length pc] 25)) (.cells #[.slice none 0 0, .slice none 0 0] 25)
    simpa using this
  have c0 : W2.cell? ⟨B1, 0, none⟩ = some (.slice FA fn fc) := by simp [World.cell?, hk1]
  have hB1l : w.heap.size ≤ B1 := Nat.le_of_eq hB1
  have HW2 := Lib.hid hW2
  have HB1 := Lib.hid hB1
  have HB2 := Lib.hid hb2
  have HK1 := Lib.hid hk1
  have HK2 := Lib.hid hk2
  clear hp ho hlp hF hQ1 hQ2 hW2 hB1 hb2 hk1 hk2
  go_enter Tryz.func9, Tryz.ntmps9
  go_upto_region 1 with fail
  rw [HW2.out, HB1.out]
  go_wp2_with fail
  refine (HF.out _ HB2.out).mono ?_; rintro r v1 ⟨⟨fA, fm, fq0, rfl, hq1⟩, hb1⟩
  have HQ1 := Lib.hid hq1
  clear hq1
  have hw1 := b_trans HB2.out hb1
  have h1 := (hb1.block _ (Array.getElem?_eq_some_iff.1 HK1.out).1).trans HK1.out
  have h2 := (hb1.block _ (Array.getElem?_eq_some_iff.1 HK2.out).1).trans HK2.out
  obtain ⟨W4, hW4⟩ : ∃ V, v1.alloc (.cells #[.slice fA fm fq0, .slice none 0 0] 25) = V := ⟨_, rfl⟩
  obtain ⟨B3, hB3⟩ : ∃ B, v1.heap.size = B := ⟨_, rfl⟩
  have hb4 := b_new v1 (.cells #[.slice fA fm fq0, .slice none 0 0] 25)
  have hk3 := World.alloc_heap_new v1 (.cells #[.slice fA fm fq0, .slice none 0 0] 25)
  rw [hW4] at hb4 hk3
  rw [hB3] at hk3
  have hs3 : B1 < v1.heap.size := (Array.getElem?_eq_some_iff.1 h1).1
  have hs4 : B1 + 1 < v1.heap.size := (Array.getElem?_eq_some_iff.1 h2).1
  have hI : ZI v1 B3 (.slice fA fm fq0) ps 0 [] (.slice none 0 0) W4 := ⟨Nat.zero_le _, rfl, fun i h => absurd h (by simp), World.ownsRow_nil _ _ _ _, fun e he => by simp at he, hk3, hb4, Nat.le_of_eq hB3⟩
  have c1 : W4.cell? ⟨B1, 1, none⟩ = some (.slice PA ps.length pc) := by
    have := (hb4.block _ hs3).trans h1
    simp [World.cell?, this]
  have HI := Lib.hid hI
  have HW4 := Lib.hid hW4
  have HB3 := Lib.hid hB3
  have HW1 := Lib.hid hw1
  have HH2 := Lib.hid h2
  have HS4 := Lib.hid hs4
  clear hI hW4 hB3 hw1 h1 h2 hb1 hb4 hk3 hs3 hs4
  go_upto_region 2 with fail
  rw [HW4.out, HB3.out]
  go_wp2_with fail
  go_loopw [5, 13] (fun _ i wr => ∃ (k : Nat) (es : List PE) (u : Value), i = .int .i64 k ∧ ZI v1 B3 (.slice fA fm fq0) ps k es u wr) (fun _ i _ => ps.length - (intOf i).toNat)
  case atStart => exact ⟨0, [], _, rfl, HI.out⟩
  case round =>
    obtain ⟨k, es, u, rfl, hV⟩ := hrel
    have hk := hV.le
    have hbw := b_trans HW1.out hV.below
    by_cases hlt : k < ps.length
    · obtain ⟨ad, rfl, hat⟩ := HP.out.below hbw k hlt
      have hoe := (HO.out ps[k] (List.getElem_mem hlt)).below hbw
      obtain ⟨hle1, hle2⟩ := HLp.out ps[k] (List.getElem_mem hlt)
      obtain ⟨e, hek⟩ : ∃ e, ps[k] = e := ⟨_, rfl⟩
      rw [hek] at hat hoe hle1 hle2
      obtain ⟨q0, q1, q2, q3, q4, q5, q6, q7⟩ := hat
      obtain ⟨W5, hW5⟩ : ∃ V, wr.alloc (.cells #[.string e.nm, .slice e.F e.fs.length e.fc, .int .i64 e.x.d.op, .int .i64 e.x.d.k, .int .i64 e.x.d.n, .string e.x.d.s, .string e.x.d.nm, .slice e.B e.m e.c] 62) = V := ⟨_, rfl⟩
      obtain ⟨B5, hB5⟩ : ∃ B, wr.heap.size = B := ⟨_, rfl⟩
      have hb5 := b_new wr (.cells #[.string e.nm, .slice e.F e.fs.length e.fc, .int .i64 e.x.d.op, .int .i64 e.x.d.k, .int .i64 e.x.d.n, .string e.x.d.s, .string e.x.d.nm, .slice e.B e.m e.c] 62)
      have hblk5 := World.alloc_heap_new wr (.cells #[.string e.nm, .slice e.F e.fs.length e.fc, .int .i64 e.x.d.op, .int .i64 e.x.d.k, .int .i64 e.x.d.n, .string e.x.d.s, .string e.x.d.nm, .slice e.B e.m e.c] 62)
      have hsz5 : W5.heap.size = wr.heap.size + 1 := by rw [← hW5]; simp
      rw [hW5] at hb5 hblk5
      rw [hB5] at hblk5
      have hs5 : B5 < W5.heap.size := (Array.getElem?_eq_some_iff.1 hblk5).1
      have hB3l : B3 < wr.heap.size := (Array.getElem?_eq_some_iff.1 hV.box).1
      have hB53 : B5 ≠ B3 := by omega
      have hps : ∀ V : World, V.heap[B5]? = some (.cells #[.string e.nm, .slice e.F e.fs.length e.fc, .int .i64 e.x.d.op, .int .i64 e.x.d.k, .int .i64 e.x.d.n, .string e.x.d.s, .string e.x.d.nm, .slice e.B e.m e.c] 62 (0, 0)) → V.cell? ⟨B5, 0, none⟩ = some (.string e.nm) ∧ V.cell? ⟨B5, 1, none⟩ = some (.slice e.F e.fs.length e.fc) ∧ V.cell? ⟨B5, 2, none⟩ = some (.int .i64 e.x.d.op) ∧ V.cell? ⟨B5, 3, none⟩ = some (.int .i64 e.x.d.k) ∧ V.cell? ⟨B5, 4, none⟩ = some (.int .i64 e.x.d.n) ∧ V.cell? ⟨B5, 5, none⟩ = some (.string e.x.d.s) ∧ V.cell? ⟨B5, 6, none⟩ = some (.string e.x.d.nm) ∧ V.cell? ⟨B5, 7, none⟩ = some (.slice e.B e.m e.c) := fun V h => ⟨by simp [World.cell?, h], by simp [World.cell?, h], by simp [World.cell?, h], by simp [World.cell?, h], by simp [World.cell?, h], by simp [World.cell?, h], by simp [World.cell?, h], by simp [World.cell?, h]⟩
      have hcell : ∀ V : World, Below W5.heap.size W5 V → V.cell? ⟨B5, 0, none⟩ = some (.string e.nm) ∧ V.cell? ⟨B5, 1, none⟩ = some (.slice e.F e.fs.length e.fc) ∧ V.cell? ⟨B5, 2, none⟩ = some (.int .i64 e.x.d.op) ∧ V.cell? ⟨B5, 3, none⟩ = some (.int .i64 e.x.d.k) ∧ V.cell? ⟨B5, 4, none⟩ = some (.int .i64 e.x.d.n) ∧ V.cell? ⟨B5, 5, none⟩ = some (.string e.x.d.s) ∧ V.cell? ⟨B5, 6, none⟩ = some (.string e.x.d.nm) ∧ V.cell? ⟨B5, 7, none⟩ = some (.slice e.B e.m e.c) := fun V hV9 => hps V ((hV9.block _ hs5).trans hblk5)
      have hrw : ∀ V : World, Below W5.heap.size W5 V → TRow V e.F e.fs := fun V hV9 => (hoe.row.below hb5).below hV9
      have hc : ∀ V : World, Below W5.heap.size W5 V → Calls Tryz.prog 30 #[.agg #[.int .i64 e.x.d.op, .int .i64 e.x.d.k, .int .i64 e.x.d.n, .string e.x.d.s, .string e.x.d.nm, .slice e.B e.m e.c]] V (Made e.x V) := fun V hV9 => (NmR.refCopy_any e.x e.x.d e.B e.m e.c V hle2 ((hoe.skip.below hb5).below hV9)).mono fun e w' h => NmS.made_of hoe.skip h
      have hbox5 : ∀ V : World, Below W5.heap.size W5 V → V.heap[B3]? = some (.cells #[.slice fA fm fq0, u] 25 (0, 0)) := fun V hV9 => (hV9.block _ (by omega)).trans ((hb5.block _ hB3l).trans hV.box)
      have hu : ∀ V : World, Below W5.heap.size W5 V → (Instr.loadAt 23 (.pointer (some ⟨B3, 1, none⟩))).run Tryz.prog V = .ok u V := fun V hV9 => by
        have c : V.cell? ⟨B3, 1, none⟩ = some u := by simp [World.cell?, hbox5 V hV9]
        simp [go_sem, c]
      have hzc : ∀ V : World, Below W5.heap.size W5 V → V.cell? ⟨B3, 1, none⟩ = some u ∧ B3 < V.heap.size := fun V hV9 => ⟨by simp [World.cell?, hbox5 V hV9], (Array.getElem?_eq_some_iff.1 (hbox5 V hV9)).1⟩
      obtain ⟨z0, y0⟩ := hzc W5 (Below.refl _ _)
      have HZ := Lib.hid hzc
      clear hzc
      have hown : ∀ V : World, Below W5.heap.size W5 V → V.ownsRow (B3 + 1) 62 8 u k (peC es) := fun V hV9 => GenL.own_below (GenL.own_below hV.own hb5) hV9
      have hsz : ∀ (V : World), Below W5.heap.size W5 V → B3 + 1 ≤ V.heap.size := fun V hV9 => by
        have h3 := hV9.size
        omega
      have happ : ∀ (w6 w7 : World) (o : Obj), Below W5.heap.size W5 w6 → (w6.alloc o).grownBy w7 u.ownBlock → w7.heap[B5]? = some (.cells #[.string e.nm, .slice e.F e.fs.length e.fc, .int .i64 e.x.d.op, .int .i64 e.x.d.k, .int .i64 e.x.d.n, .string e.x.d.s, .string e.x.d.nm, .slice e.B e.m e.c] 62 (0, 0)) ∧ w7.cell? ⟨B3, 1, none⟩ = some u ∧ w7.frozen? ⟨B3, 1, none⟩ = false := fun w6 w7 o h1 h2 => by
        have h5 : w6.heap[B5]? = _ := (h1.block _ hs5).trans hblk5
        have h7 : w7.heap[B5]? = _ := (app_keep h2 (Array.getElem?_eq_some_iff.1 h5).1 (fun e => by have := (hV.own.lt B5 e.symm).2; omega)).trans h5
        have h6 := hbox5 w6 h1
        have h8 : w7.heap[B3]? = _ := (app_keep h2 (Array.getElem?_eq_some_iff.1 h6).1 (fun e => by have := (hV.own.lt B3 e.symm).1; omega)).trans h6
        exact ⟨h7, by simp [World.cell?, h8], by simp [World.frozen?, h8]⟩
      have hl3 : ∀ V : World, Below W5.heap.size W5 V → (Instr.loadAt 9 (.pointer (some ⟨B5, 0, none⟩))).run Tryz.prog V = .ok (.string e.nm) V := fun V hV9 => by
        have c := (hcell V hV9).1
        simp [go_sem, c]
      have hl5 : ∀ V : World, Below W5.heap.size W5 V → (Instr.loadAt 34 (.pointer (some ⟨B5, 1, none⟩))).run Tryz.prog V = .ok (.slice e.F e.fs.length e.fc) V := fun V hV9 => by
        have c := (hcell V hV9).2.1
        simp [go_sem, c]
      have hl8 : ∀ V : World, Below W5.heap.size W5 V → (Instr.loadAt 48 (.pointer (some ⟨B5, 2, none⟩))).run Tryz.prog V = .ok (.agg #[.int .i64 e.x.d.op, .int .i64 e.x.d.k, .int .i64 e.x.d.n, .string e.x.d.s, .string e.x.d.nm, .slice e.B e.m e.c]) V := fun V hV9 => by
        obtain ⟨_, _, c2, c3, c4, c5, c6, c7⟩ := hcell V hV9
        refine run_loadAt_mid V B5 2 48 [.int .i64 e.x.d.op, .int .i64 e.x.d.k, .int .i64 e.x.d.n, .string e.x.d.s, .string e.x.d.nm, .slice e.B e.m e.c] _ (fun j v hj => ?_) Tryz.underlying48 rfl (by kernel_rfl)
        match j, hj with
        | 0, hj => simp at hj; subst hj; exact c2
        | 1, hj => simp at hj; subst hj; exact c3
        | 2, hj => simp at hj; subst hj; exact c4
        | 3, hj => simp at hj; subst hj; exact c5
        | 4, hj => simp at hj; subst hj; exact c6
        | 5, hj => simp at hj; subst hj; exact c7
        | j + 6, hj => simp at hj
      have hst : ∀ (V Wp : World) (gg n cap : Nat), Below W5.heap.size W5 Wp → Wp.grownBy V u.ownBlock → (Instr.storeAt 23 (.pointer (some ⟨B3, 1, none⟩)) (.slice (some ⟨gg, 0, none⟩) n cap)).run Tryz.prog V = .ok () (V.setCell ⟨B3, 1, none⟩ (.slice (some ⟨gg, 0, none⟩) n cap)) := fun V Wp gg n cap h1 h2 => by
        have h6 := hbox5 Wp h1
        have h8 : V.heap[B3]? = _ := (h2.block _ (Array.getElem?_eq_some_iff.1 h6).1 (fun e => by have := (hV.own.lt B3 e.symm).1; omega)).trans h6
        have c : V.cell? ⟨B3, 1, none⟩ = some u := by simp [World.cell?, h8]
        have z : V.frozen? ⟨B3, 1, none⟩ = false := by simp [World.frozen?, h8]
        simp [go_sem, c, z]
      have HL3 := Lib.hid hl3
      have HL5 := Lib.hid hl5
      have HL8 := Lib.hid hl8
      have HSt := Lib.hid hst
      have HM := Lib.hid (VZ.mono W5.heap.size B3 B5 u e)
      have hen : ∀ (args : Array Value) (w : World), (callFunc 30 args).run Tryz.prog w = .ok (.enter 30 args) w := fun _ _ => by kernel_rfl
      clear hl3 hl5 hl8 hst
      have hset : ∀ (V : World) (v : Value), V.heap[B5]? = some (.cells #[.string e.nm, .slice e.F e.fs.length e.fc, .int .i64 e.x.d.op, .int .i64 e.x.d.k, .int .i64 e.x.d.n, .string e.x.d.s, .string e.x.d.nm, .slice e.B e.m e.c] 62 (0, 0)) → (V.setCell ⟨B3, 1, none⟩ v).heap[B5]? = some (.cells #[.string e.nm, .slice e.F e.fs.length e.fc, .int .i64 e.x.d.op, .int .i64 e.x.d.k, .int .i64 e.x.d.n, .string e.x.d.s, .string e.x.d.nm, .slice e.B e.m e.c] 62 (0, 0)) := fun V v h => (Below.heap_setCell V ⟨B3, 1, none⟩ v B5 hB53).trans h
      have hfin : ∀ (V Wp : World) (F : Option Addr) (fq : Nat) (B : Option Addr) (m c gg cap : Nat), Below W5.heap.size W5 Wp → SRowP (fun b => W5.heap.size ≤ b) Wp F e.fs → IsP (fun b => W5.heap.size ≤ b) Wp e.x e.x.d B m → V.ownsRow (B3 + 1) 62 8 (.slice (some ⟨gg, 0, none⟩) (k + 1) cap) (k + 1) (peC es ++ [.string e.nm, .slice F e.fs.length fq, .int .i64 e.x.d.op, .int .i64 e.x.d.k, .int .i64 e.x.d.n, .string e.x.d.s, .string e.x.d.nm, .slice B m c]) → Wp.grownBy V u.ownBlock → (u.ownBlock = some gg ∨ gg = Wp.heap.size) → ∃ es' u', ZI v1 B3 (.slice fA fm fq0) ps (k + 1) es' u' (V.setCell ⟨B3, 1, none⟩ (.slice (some ⟨gg, 0, none⟩) (k + 1) cap)) := fun V Wp F fq B m c gg cap h1 h2 h3 h4 h5 h6 =>
        ⟨_, _, hV.step (e := ⟨e.nm, e.fs, F, fq, e.x, B, m, c⟩) hlt (by rw [hek]; exact ⟨rfl, rfl, rfl⟩) (b_trans hb5 h1) ⟨h2.keep (fun b _ _ => rfl) (fun b hb9 _ => by have h9 : W5.heap.size ≤ b := hb9; omega), IsP.keep (fun b _ _ => rfl) (fun b hb9 _ => by have h9 : W5.heap.size ≤ b := hb9; omega) _ _ _ _ h3⟩ h4 h5 h6⟩
      have HPs := Lib.hid hps
      have HSet := Lib.hid hset
      have HRw := Lib.hid hrw
      have HU := Lib.hid hu
      have HApp := Lib.hid happ
      have HC := Lib.hid hc
      have HCell := Lib.hid hcell
      obtain ⟨LL, hLL⟩ : ∃ L, peC es = L := ⟨_, rfl⟩
      rw [hLL] at hown hfin
      have HFin := Lib.hid hfin
      clear hfin
      have HLL := Lib.hid hLL
      have HOwn := Lib.hid hown
      have HSz := Lib.hid hsz
      have HV := Lib.hid hV
      have HW5 := Lib.hid hW5
      have HB5 := Lib.hid hB5
      have HBw5 := Lib.hid hb5
      have HSz5 := Lib.hid hsz5
      have HEk := Lib.hid hek
      have hbl := Below.refl W5.heap.size W5
      obtain ⟨k0, k1, k2, k3, k4, k5, k6, k7⟩ := hcell W5 hbl
      have hk9 : k ≤ 1048576 := by omega
      clear hps hset hrw hu happ hc hcell hown hsz hV hW5 hB5 hb5 hsz5 hek hblk5 hoe hbox5 hbw hLL hle2 hs5 hB3l hB53
      go_upto_region 5 with fail
      rw [HW5.out, HB5.out]
      refine region_fill [(0, 17), (1, 18), (2, 19), (3, 20), (4, 21), (5, 22), (6, 23), (7, 24), (8, 25), (9, 26), (10, 27), (11, 28), (12, 29), (13, 30)] (JN W5 (VZ W5.heap.size B3 B5 u e) (fun v w => ∃ (F : Option Addr) (fq : Nat) (B : Option Addr) (m c gg cap : Nat) (Wp : World), v = .slice (some ⟨gg, 0, none⟩) (k + 1) cap ∧ Below W5.heap.size W5 Wp ∧ SRowP (fun b => W5.heap.size ≤ b) Wp F e.fs ∧ IsP (fun b => W5.heap.size ≤ b) Wp e.x e.x.d B m ∧ w.ownsRow (B3 + 1) 62 8 (.slice (some ⟨gg, 0, none⟩) (k + 1) cap) (k + 1) (LL ++ [.string e.nm, .slice F e.fs.length fq, .int .i64 e.x.d.op, .int .i64 e.x.d.k, .int .i64 e.x.d.n, .string e.x.d.s, .string e.x.d.nm, .slice B m c]) ∧ Wp.grownBy w u.ownBlock ∧ (u.ownBlock = some gg ∨ gg = Wp.heap.size)) (fun w => ∃ es' u', ZI v1 B3 (.slice fA fm fq0) ps (k + 1) es' u' w) (.pointer (some ⟨B3, 1, none⟩))) (fun f => by simp only [fill, Act.put, List.setIfInBounds_toArray, List.set_cons_zero, List.set_cons_succ]; rfl) (by kernel_rfl) (by kernel_rfl) (by kernel_rfl) (fun f => jn_start (Below.refl _ _) f) ?_ ?_
      · intro F hFr
        refine ⟨?_, ?_, ?_, ?_, ?_, ?_, ?_, ?_, ?_, ?_, ?_, ?_, ?_, ?_, ?_, trivial⟩
        · as_aux_lemma =>
          intro D f wx hJ hD hdep K9 hK
          obtain ⟨_, _, hbw, hv, hcl⟩ := jn_live hJ (by decide) hD
          have hl : (Instr.fieldAt 25 (.pointer (some ⟨B3, 0, none⟩)) 1).run Tryz.prog wx = .ok (.pointer (some ⟨B3, 1, none⟩)) wx := by simp [go_sem]
          exact stepF_val rfl (op_field rfl (p := .pointer (some ⟨B3, 0, none⟩)) (by rw [hFr]; kernel_rfl) hl) (by rw [hFr, hFr]; kernel_rfl) (hK (updf f 0 (.pointer (some ⟨B3, 1, none⟩))) _ (jn_step HM.out hJ (by decide) hD (b_ref _) rfl (fun j hj => by simp [DP] at hj)))
        · as_aux_lemma =>
          intro D f wx hJ hD hdep K9 hK
          obtain ⟨_, _, hbw, hv, hcl⟩ := jn_live hJ (by decide) hD
          have e0 : f 0 = _ := hv 0 (by decide) (by decide) (done hdep 0 (by kernel_rfl))
          exact stepF_val rfl (op_load rfl (p := .pointer (some ⟨B3, 1, none⟩)) ((show _ = f 0 from by rw [hFr]; kernel_rfl).trans e0) (HU.out wx hbw)) (by rw [hFr, hFr]; kernel_rfl) (hK (updf f 1 (u)) _ (jn_step HM.out hJ (by decide) hD (b_ref _) rfl (fun j hj => by simp [DP] at hj; subst hj; exact done hdep 0 (by kernel_rfl))))
        · as_aux_lemma =>
          intro D f wx hJ hD hdep K9 hK
          obtain ⟨_, _, hbw, hv, hcl⟩ := jn_live hJ (by decide) hD
          have hl : (Instr.fieldAt 62 (.pointer (some ⟨B5, 0, none⟩)) 0).run Tryz.prog wx = .ok (.pointer (some ⟨B5, 0, none⟩)) wx := by simp [go_sem]
          exact stepF_val rfl (op_field rfl (p := .pointer (some ⟨B5, 0, none⟩)) (by rw [hFr]; kernel_rfl) hl) (by rw [hFr, hFr]; kernel_rfl) (hK (updf f 2 (.pointer (some ⟨B5, 0, none⟩))) _ (jn_step HM.out hJ (by decide) hD (b_ref _) rfl (fun j hj => by simp [DP] at hj)))
        · as_aux_lemma =>
          intro D f wx hJ hD hdep K9 hK
          obtain ⟨_, _, hbw, hv, hcl⟩ := jn_live hJ (by decide) hD
          have e2 : f 2 = _ := hv 2 (by decide) (by decide) (done hdep 2 (by kernel_rfl))
          exact stepF_val rfl (op_load rfl (p := .pointer (some ⟨B5, 0, none⟩)) ((show _ = f 2 from by rw [hFr]; kernel_rfl).trans e2) (HL3.out wx hbw)) (by rw [hFr, hFr]; kernel_rfl) (hK (updf f 3 (.string e.nm)) _ (jn_step HM.out hJ (by decide) hD (b_ref _) rfl (fun j hj => by simp [DP] at hj; subst hj; exact done hdep 2 (by kernel_rfl))))
        · as_aux_lemma =>
          intro D f wx hJ hD hdep K9 hK
          obtain ⟨_, _, hbw, hv, hcl⟩ := jn_live hJ (by decide) hD
          have hl : (Instr.fieldAt 62 (.pointer (some ⟨B5, 0, none⟩)) 1).run Tryz.prog wx = .ok (.pointer (some ⟨B5, 1, none⟩)) wx := by simp [go_sem]
          exact stepF_val rfl (op_field rfl (p := .pointer (some ⟨B5, 0, none⟩)) (by rw [hFr]; kernel_rfl) hl) (by rw [hFr, hFr]; kernel_rfl) (hK (updf f 4 (.pointer (some ⟨B5, 1, none⟩))) _ (jn_step HM.out hJ (by decide) hD (b_ref _) rfl (fun j hj => by simp [DP] at hj)))
        · as_aux_lemma =>
          intro D f wx hJ hD hdep K9 hK
          obtain ⟨_, _, hbw, hv, hcl⟩ := jn_live hJ (by decide) hD
          have e4 : f 4 = _ := hv 4 (by decide) (by decide) (done hdep 4 (by kernel_rfl))
          exact stepF_val rfl (op_load rfl (p := .pointer (some ⟨B5, 1, none⟩)) ((show _ = f 4 from by rw [hFr]; kernel_rfl).trans e4) (HL5.out wx hbw)) (by rw [hFr, hFr]; kernel_rfl) (hK (updf f 5 (.slice e.F e.fs.length e.fc)) _ (jn_step HM.out hJ (by decide) hD (b_ref _) rfl (fun j hj => by simp [DP] at hj; subst hj; exact done hdep 4 (by kernel_rfl))))
        · as_aux_lemma =>
          intro D f wx hJ hD hdep K9 hK
          obtain ⟨_, _, hbw, hv, hcl⟩ := jn_live hJ (by decide) hD
          have e5 : f 5 = _ := hv 5 (by decide) (by decide) (done hdep 5 (by kernel_rfl))
          refine step_append_copy (by rfl) (.const (.slice none 0 0)) (.tmp 22) 34 (by rfl) 9 s0 (.string ⟨#[]⟩) Tryz.underlying34 hsi hsz0 hsz1 hsz2 rfl e.fs e.F e.fc rfl ((show _ = f 5 from by rw [hFr]; kernel_rfl).trans e5) (HRw.out wx hbw) hle1 ?_
          intro F fq w6 hown6 hb6
          have hk := hK (updf f 6 (.slice F e.fs.length fq)) w6 (jn_step HM.out hJ (by decide) hD hb6 ⟨F, fq, rfl, SRowP.of_own hown6 hbw.size⟩ (fun j hj => by simp [DP] at hj; subst hj; exact done hdep 5 (by kernel_rfl)))
          rw [hFr] at hk ⊢
          exact hk
        · as_aux_lemma =>
          intro D f wx hJ hD hdep K9 hK
          obtain ⟨_, _, hbw, hv, hcl⟩ := jn_live hJ (by decide) hD
          have hl : (Instr.fieldAt 62 (.pointer (some ⟨B5, 0, none⟩)) 2).run Tryz.prog wx = .ok (.pointer (some ⟨B5, 2, none⟩)) wx := by simp [go_sem]
          exact stepF_val rfl (op_field rfl (p := .pointer (some ⟨B5, 0, none⟩)) (by rw [hFr]; kernel_rfl) hl) (by rw [hFr, hFr]; kernel_rfl) (hK (updf f 7 (.pointer (some ⟨B5, 2, none⟩))) _ (jn_step HM.out hJ (by decide) hD (b_ref _) rfl (fun j hj => by simp [DP] at hj)))
        · as_aux_lemma =>
          intro D f wx hJ hD hdep K9 hK
          obtain ⟨_, _, hbw, hv, hcl⟩ := jn_live hJ (by decide) hD
          have e7 : f 7 = _ := hv 7 (by decide) (by decide) (done hdep 7 (by kernel_rfl))
          exact stepF_val rfl (op_load rfl (p := .pointer (some ⟨B5, 2, none⟩)) ((show _ = f 7 from by rw [hFr]; kernel_rfl).trans e7) (HL8.out wx hbw)) (by rw [hFr, hFr]; kernel_rfl) (hK (updf f 8 (.agg #[.int .i64 e.x.d.op, .int .i64 e.x.d.k, .int .i64 e.x.d.n, .string e.x.d.s, .string e.x.d.nm, .slice e.B e.m e.c])) _ (jn_step HM.out hJ (by decide) hD (b_ref _) rfl (fun j hj => by simp [DP] at hj; subst hj; exact done hdep 7 (by kernel_rfl))))
        · as_aux_lemma =>
          intro D f wx hJ hD hdep K9 hK
          obtain ⟨_, _, hbw, hv, hcl⟩ := jn_live hJ (by decide) hD
          have e8 : f 8 = _ := hv 8 (by decide) (by decide) (done hdep 8 (by kernel_rfl))
          refine stepF_callR rfl (op_enter rfl rfl (xs := #[.agg #[.int .i64 e.x.d.op, .int .i64 e.x.d.k, .int .i64 e.x.d.n, .string e.x.d.s, .string e.x.d.nm, .slice e.B e.m e.c]]) (by rw [← e8, hFr]; kernel_rfl) hen) (HC.out wx hbw) ?_
          rintro r w9 ⟨d, B, m, c, rfl, hi9, hb9⟩
          obtain rfl : d = e.x.d := ExS.is_d (IsP.is _ _ _ _ hi9)
          have hk := hK (updf f 9 (.agg #[.int .i64 e.x.d.op, .int .i64 e.x.d.k, .int .i64 e.x.d.n, .string e.x.d.s, .string e.x.d.nm, .slice B m c])) w9 (jn_step HM.out hJ (by decide) hD hb9 ⟨B, m, c, rfl, IsP.keep (fun b _ _ => rfl) (fun b hb8 _ => Nat.le_trans hbw.size hb8) _ _ _ _ hi9⟩ (fun j hj => by simp [DP] at hj; subst hj; exact done hdep 8 (by kernel_rfl)))
          refine ⟨_, rfl, ?_⟩
          rw [hFr] at hk ⊢
          exact hk
        · as_aux_lemma =>
          intro D f wx hJ hD hdep K9 hK
          obtain ⟨_, _, hbw, hv, hcl⟩ := jn_live hJ (by decide) hD
          have e3 : f 3 = _ := hv 3 (by decide) (by decide) (done hdep 3 (by kernel_rfl))
          obtain ⟨F, fq, e6, hr6⟩ := hv 6 (by decide) (by decide) (done hdep 6 (by kernel_rfl))
          obtain ⟨B, m, c, e9, hi9⟩ := hv 9 (by decide) (by decide) (done hdep 9 (by kernel_rfl))
          have hl : (Instr.build 62 #[(0, .string e.nm), (1, .slice F e.fs.length fq), (2, .agg #[.int .i64 e.x.d.op, .int .i64 e.x.d.k, .int .i64 e.x.d.n, .string e.x.d.s, .string e.x.d.nm, .slice B m c])]).run Tryz.prog wx = .ok (.agg #[.string e.nm, .slice F e.fs.length fq, .int .i64 e.x.d.op, .int .i64 e.x.d.k, .int .i64 e.x.d.n, .string e.x.d.s, .string e.x.d.nm, .slice B m c]) wx := build_pg _ _ _ _ _ _ _ _ _ _ _ _ _
          exact stepF_val rfl (op_build rfl (qs := #[(0, .string e.nm), (1, .slice F e.fs.length fq), (2, .agg #[.int .i64 e.x.d.op, .int .i64 e.x.d.k, .int .i64 e.x.d.n, .string e.x.d.s, .string e.x.d.nm, .slice B m c])]) (by rw [← e3, ← e6, ← e9, hFr]; kernel_rfl) hl) (by rw [hFr, hFr]; kernel_rfl) (hK (updf f 10 (.agg #[.string e.nm, .slice F e.fs.length fq, .int .i64 e.x.d.op, .int .i64 e.x.d.k, .int .i64 e.x.d.n, .string e.x.d.s, .string e.x.d.nm, .slice B m c])) _ (jn_step HM.out hJ (by decide) hD (b_ref _) ⟨F, fq, B, m, c, rfl, hr6, hi9⟩ (fun j hj => by simp [DP] at hj; rcases hj with rfl | rfl | rfl; exact done hdep 3 (by kernel_rfl); exact done hdep 6 (by kernel_rfl); exact done hdep 9 (by kernel_rfl))))
        · as_aux_lemma =>
          intro D f wx hJ hD hdep K9 hK
          obtain ⟨_, _, hbw, hv, hcl⟩ := jn_live hJ (by decide) hD
          obtain ⟨F, fq, B, m, c, e10, hr6, hi9⟩ := hv 10 (by decide) (by decide) (done hdep 10 (by kernel_rfl))
          have hl : (Instr.buildSlice 23 1 #[(0, .agg #[.string e.nm, .slice F e.fs.length fq, .int .i64 e.x.d.op, .int .i64 e.x.d.k, .int .i64 e.x.d.n, .string e.x.d.s, .string e.x.d.nm, .slice B m c])]).run Tryz.prog wx = .ok (.slice (some ⟨wx.heap.size, 0, none⟩) 1 1) (wx.alloc (.cells #[.string e.nm, .slice F e.fs.length fq, .int .i64 e.x.d.op, .int .i64 e.x.d.k, .int .i64 e.x.d.n, .string e.x.d.s, .string e.x.d.nm, .slice B m c] 62)) := slice_pg _ _ _ _ _ _ _ _ _ _ _ _ _
          have hbn := b_new wx (.cells #[.string e.nm, .slice F e.fs.length fq, .int .i64 e.x.d.op, .int .i64 e.x.d.k, .int .i64 e.x.d.n, .string e.x.d.s, .string e.x.d.nm, .slice B m c] 62)
          exact stepF_val rfl (op_buildSlice rfl (qs := #[(0, .agg #[.string e.nm, .slice F e.fs.length fq, .int .i64 e.x.d.op, .int .i64 e.x.d.k, .int .i64 e.x.d.n, .string e.x.d.s, .string e.x.d.nm, .slice B m c])]) (by rw [← e10, hFr]; kernel_rfl) hl) (by rw [hFr, hFr]; kernel_rfl) (hK (updf f 11 (.slice (some ⟨wx.heap.size, 0, none⟩) 1 1)) _ (jn_step HM.out hJ (by decide) hD hbn ⟨_, F, fq, B, m, c, rfl, World.alloc_heap_new _ _, hr6.below hbn, isP_below hi9 hbn⟩ (fun j hj => by simp [DP] at hj; subst hj; exact done hdep 10 (by kernel_rfl))))
        · as_aux_lemma =>
          intro D f wx hJ hD hdep K9 hK
          obtain ⟨_, _, hbw, hv, hcl⟩ := jn_live hJ (by decide) hD
          have e1 : f 1 = _ := hv 1 (by decide) (by decide) (done hdep 1 (by kernel_rfl))
          obtain ⟨b, F, fq, B, m, c, e11, hblk, hr6, hi9⟩ := hv 11 (by decide) (by decide) (done hdep 11 (by kernel_rfl))
          have d11 := done hdep 11 (by kernel_rfl)
          have d1 := done hdep 1 (by kernel_rfl)
          have d10 := hcl 11 10 d11 (by simp [DP])
          have d3 := hcl 10 3 d10 (by simp [DP])
          have d6 := hcl 10 6 d10 (by simp [DP])
          have d9 := hcl 10 9 d10 (by simp [DP])
          have d0 := hcl 1 0 d1 (by simp [DP])
          have d2 := hcl 3 2 d3 (by simp [DP])
          have d5 := hcl 6 5 d6 (by simp [DP])
          have d4 := hcl 5 4 d5 (by simp [DP])
          have d8 := hcl 9 8 d9 (by simp [DP])
          have d7 := hcl 8 7 d8 (by simp [DP])
          have hall : ∀ i, i < 12 → D i = true := fun i hi => by
            match i, hi with
            | 0, _ => exact d0
            | 1, _ => exact d1
            | 2, _ => exact d2
            | 3, _ => exact d3
            | 4, _ => exact d4
            | 5, _ => exact d5
            | 6, _ => exact d6
            | 7, _ => exact d7
            | 8, _ => exact d8
            | 9, _ => exact d9
            | 10, _ => exact d10
            | 11, _ => exact d11
          refine step_append_lies _ (by rfl) (.tmp 18) (.tmp 28) 23 (by rfl) (B3 + 1) 62 i0 _ 8 120 Tryz.underlying23 hi hz0 hz1 hz2 rfl (by decide) u k LL ((show _ = f 1 from by rw [hFr]; kernel_rfl).trans e1) (HOwn.out wx hbw) ⟨b, 0, none⟩ 1 1 [.string e.nm, .slice F e.fs.length fq, .int .i64 e.x.d.op, .int .i64 e.x.d.k, .int .i64 e.x.d.n, .string e.x.d.s, .string e.x.d.nm, .slice B m c] ((show _ = f 11 from by rw [hFr]; kernel_rfl).trans e11) (by rfl) (World.news_of_block (cs := #[.string e.nm, .slice F e.fs.length fq, .int .i64 e.x.d.op, .int .i64 e.x.d.k, .int .i64 e.x.d.n, .string e.x.d.s, .string e.x.d.nm, .slice B m c]) (t := 62) (fr := (0, 0)) hblk) (by simp [Value.oneCell']) (by decide) (by unfold maxLen; omega) (by omega) (HSz.out wx hbw) wx.heap.size rfl ?_
          intro gg cap w6 hown6 hgrow6 hat6 hlt6
          have hk := hK (updf f 12 (.slice (some ⟨gg, 0, none⟩) (k + 1) cap)) w6 (jn_12 hJ hD hall (fun _ _ h => h) ⟨F, fq, B, m, c, gg, cap, wx, rfl, hbw, hr6, hi9, hown6, hgrow6, hat6⟩)
          rw [hFr] at hk ⊢
          exact hk
        · as_aux_lemma =>
          intro D f wx hJ hD hdep K9 hK
          have hl : (Instr.fieldAt 25 (.pointer (some ⟨B3, 0, none⟩)) 1).run Tryz.prog wx = .ok (.pointer (some ⟨B3, 1, none⟩)) wx := by simp [go_sem]
          exact stepF_val rfl (op_field rfl (p := .pointer (some ⟨B3, 0, none⟩)) (by rw [hFr]; kernel_rfl) hl) (by rw [hFr, hFr]; kernel_rfl) (hK (updf f 13 (.pointer (some ⟨B3, 1, none⟩))) _ (jn_13 hJ hD rfl))
        · as_aux_lemma =>
          intro D f wx hJ hD hdep K9 hK
          obtain ⟨⟨F, fq, B, m, c, gg, cap, Wp, e12, hbp, hr6, hi9, hown6, hgrow6, hat6⟩, e13, hfin⟩ := jn_14 (w' := wx.setCell ⟨B3, 1, none⟩ (f 12)) hJ hD (done hdep 12 (by kernel_rfl)) (done hdep 13 (by kernel_rfl))
          rw [e12] at hfin
          exact stepF_skip rfl rfl (op_store rfl ((show _ = f 13 from by rw [hFr]; kernel_rfl).trans e13) ((show _ = f 12 from by rw [hFr]; kernel_rfl).trans e12) (HSt.out wx Wp gg (k + 1) cap hbp hgrow6)) (hK f _ (hfin (HFin.out wx Wp F fq B m c gg cap hbp hr6 hi9 hown6 hgrow6 hat6)))
      · intro D f wx hJ hall
        obtain ⟨es', u', hN⟩ := jn_end hJ (hall 14 (by decide))
        have HN := Lib.hid hN
        clear hN hJ
        go_wp2_with fail
        go_roundw
        case rel => exact ⟨k + 1, _, _, by go_num, HN.out⟩
        case measure => simp [intOf]; omega
    · obtain rfl : k = ps.length := by omega
      obtain ⟨A, c, hu, hpg⟩ := own_pgs hV.own hV.len
      subst hu
      have hx2 : wr.heap[B1 + 1]? = _ := (hV.below.block _ HS4.out).trans HH2.out
      have hx3 := hV.box
      have hlen := hV.len
      have n2 : ∀ o, wr.cell? ⟨B1 + 1, o, none⟩ = (#[.slice none 0 0, .slice none 0 0] : Array Value)[o]? := fun o => by simp [World.cell?, hx2]
      have z2 : ∀ o, wr.frozen? ⟨B1 + 1, o, none⟩ = false := fun o => by simp [World.frozen?, hx2]
      have n3 : ∀ o, wr.cell? ⟨B3, o, none⟩ = (#[.slice fA fm fq0, .slice A es.length c] : Array Value)[o]? := fun o => by simp [World.cell?, hx3]
      have hge := hV.ge
      have hs4 := HS4.out
      have hout : ∀ V, V = (wr.setCell ⟨B1 + 1, 0, none⟩ (.slice fA fm fq0)).setCell ⟨B1 + 1, 1, none⟩ (.slice A es.length c) → FOut Q ps w (.returned (.agg #[.slice fA fm fq0, .slice A es.length c])) V := fun V hVe => by
        have hk9 : ∀ b, b ≠ B1 + 1 → V.heap[b]? = wr.heap[b]? := fun b hb => by
          rw [hVe, Below.heap_setCell _ ⟨B1 + 1, 1, none⟩ _ b hb, Below.heap_setCell _ ⟨B1 + 1, 0, none⟩ _ b hb]
        refine ⟨fA, fm, fq0, es, A, c, rfl, hlen, hV.val, fun i hi => ?_, fun e he => ?_, ?_, HQc.out.2 _ _ _ wr V (B1 + 1) (fun j => by simp [World.cell?, hx2]) hk9 (HQc.out.1 _ _ _ v1 wr hV.below HQ1.out)⟩
        · obtain ⟨a, e, hf⟩ := hpg i hi
          refine ⟨a, e, hf.of_block (hk9 _ ?_)⟩
          rw [block_of_add]
          intro e9
          have := (hV.own.lt a.block (by rw [e]; rfl)).1
          omega
        · have h9 := (hV.is e he).keep (Q := fun _ => True) (fun b hb hl => hk9 b (by have := hb.1; omega)) (fun b _ _ => trivial)
          exact ⟨h9.str.srow, IsP.is _ _ _ _ h9.skip⟩
        · rw [hVe]
          exact (hbw.setCell (p := ⟨B1 + 1, 0, none⟩) (by show w.heap.size ≤ B1 + 1; omega) _).setCell (p := ⟨B1 + 1, 1, none⟩) (by show w.heap.size ≤ B1 + 1; omega) _
      have HOut := Lib.hid (hout _ rfl)
      clear hout hV hpg hbw hx2 hx3 hge hlen
      go_wp2_with fail
      refine bodyPost_ret (v := .agg #[.slice fA fm fq0, .slice A es.length c]) (by simp [results, Tryz.results9, go_sem, n2]) rfl HOut.out
end Go.Proofs.YtdlfhldboagbeaaGreatDoor.FmC
