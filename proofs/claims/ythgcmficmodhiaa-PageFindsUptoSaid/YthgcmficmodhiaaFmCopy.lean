/- The reference's copy of a form: the pages. -/
import Derived.Test.YthgcmficmodhiaaPgCopy
import Derived.Test.YthgcmficmodhiaaNmSwap
import Derived.Deep.AppendLies
import Derived.Deep.RegionLaw
import Derived.Deep.RegionHeld3
namespace Go.Proofs.Ythgcmficmodhiaa.FmC
open Go.RowKit
open ValM LexM NumM ExM NmM Kit ExL ExP NmC NmP NmR NmA NmT RawV Within GenL FldP FrmM PgM PgC
set_option linter.unusedVariables false

/-- append(nil, l...): the texts of l in a row of their own, or nil. -/
theorem step_append_copy {P : Program} {w : World} {ops : Array Oper} {o : Oper} {a : Act} {K : Act → World → Prop} {Q : Exit → Act → World → Prop} {E : Prop} (hgd : o.guard = none) (s x : Operand) (t : TypeId)
    (ho : o.op = .call { callee := .builtin .append, args := #[s, x], argTypes := #[t, t] }) (e : TypeId) (i : TypeInfo) (z : Value) (ht : P.underlying t = some (.slice e)) (hi : P.info? e = some i) (hz : i.zero = some z)
    (hsize : i.size = 1) (hby : i.bytes = 16) (hzs : z.cells.size = 1) (L : List ByteArray) (A : Option Addr) (c : Nat) (hs : a.eval s = .slice none 0 0) (hx : a.eval x = .slice A L.length c) (hr : TRow w A L) (hl : L.length ≤ 1048576)
    (h : ∀ F fc w', w'.ownsRow w.heap.size e 1 (.slice F L.length fc) L.length (strV L) → Below w.heap.size w w' → K (a.put o.dst (.slice F L.length fc)) w') :
    if Region.wanted o (yielded ops a.tmps) = true then Oper.wp P o a w K Q else E := by
  have hw : Region.wanted o (yielded ops a.tmps) = true := by simp [Region.wanted, hgd]
  rw [if_pos hw]
  by_cases hz0 : L.length = 0
  · have hnil : L = [] := List.eq_nil_of_length_eq_zero hz0
    subst hnil
    have hsrc : Src P i.size t (.slice A 0 c) 0 [] w := by
      cases A with
      | none => exact Src.ofNil w ht c
      | some ad => exact Src.ofSlice w ht ad 0 c [] (by simp) (fun j u h => by simp at h) (fun u h => by cases h)
    have hrun := run_append_nothing (P := P) w t t o.type e i ht hi none 0 0 (Nat.le_refl _) (.slice A 0 c) hsrc
    have hx0 : a.eval x = .slice A 0 c := hx
    unfold Oper.wp
    simp [execOp, ho, resolve, invoke, builtin, hs, hx0, hrun, Result.andThen]
    exact h none 0 w (World.ownsRow_nil _ _ _ _) (Below.refl _ _)
  · have hpos : 0 < L.length := by omega
    obtain ⟨a2, rfl, _⟩ := hr 0 hpos
    have hnews : ∀ j u, (strV L)[j]? = some u → w.cell? (a2.add j) = some u := fun j u hu => by
      unfold strV at hu
      rw [List.getElem?_map] at hu
      have hj : j < L.length := by
        rcases Nat.lt_or_ge j L.length with h | h
        · exact h
        · rw [List.getElem?_eq_none h] at hu; cases hu
      rw [List.getElem?_eq_getElem hj] at hu
      injection hu with hu
      obtain ⟨a3, e3, hc⟩ := hr j hj
      injection e3 with e3
      subst e3 hu
      exact hc
    obtain ⟨g, cap, w', hr2, h2, h3, h4, h5⟩ := run_append_lies (P := P) w t o.type w.heap.size e i z 1 16 ht hi hz hsize hby hzs (by decide) (.slice none 0 0) 0 [] (World.ownsRow_nil _ _ _ _) a2 L.length c (strV L) (by rw [strV_len, Nat.mul_one]) hnews strV_one hpos (by unfold maxLen; omega) (by omega) (Nat.le_refl _) w.heap.size rfl
    rw [List.nil_append, Nat.zero_add] at h2
    rw [Nat.zero_add] at hr2
    unfold Oper.wp execOp
    simp only [ho, resolve, invoke, builtin, Sem.run_bind, Sem.run_pure, Result.andThen_ok, List.map_toArray, List.map_cons, List.map_nil, hs, hx, hr2]
    exact h _ _ _ h2 ⟨h3.os, h3.tape, h3.output, h3.size, fun b hb => h3.block b hb (by simp [Value.ownBlock])⟩
theorem step_load {P : Program} {w : World} {ops : Array Oper} {o : Oper} {a : Act} {K : Act → World → Prop} {Q : Exit → Act → World → Prop} {E : Prop} (hgd : o.guard = none) (t : TypeId) (x : Operand) (ho : o.op = .load t x) (p v : Value) (hx : a.eval x = p)
    (hrun : (Instr.loadAt t p).run P w = .ok v w) (h : K (a.put o.dst v) w) : if Region.wanted o (yielded ops a.tmps) = true then Oper.wp P o a w K Q else E := by
  have hw : Region.wanted o (yielded ops a.tmps) = true := by simp [Region.wanted, hgd]
  rw [if_pos hw]
  unfold Oper.wp
  simp only [execOp, ho, hx, Sem.run_bind, hrun, Result.andThen_ok, Sem.run_pure]
  exact h
/-- A row of texts in blocks of P. -/
def SRowP (P : Nat → Prop) (w : World) (A : Option Addr) (L : List ByteArray) : Prop := ∀ (j : Nat) (h : j < L.length), ∃ g, A = some ⟨g, 0, none⟩ ∧ P g ∧ w.cell? ⟨g, j, none⟩ = some (.string L[j])
theorem SRowP.keep {P Q : Nat → Prop} {w w' : World} {A : Option Addr} {L : List ByteArray} (h : SRowP P w A L) (hk : ∀ b, P b → b < w.heap.size → w'.heap[b]? = w.heap[b]?) (hq : ∀ b, P b → b < w.heap.size → Q b) : SRowP Q w' A L := fun j hj => by
  obtain ⟨g, e, hp, hc⟩ := h j hj
  have hl : g < w.heap.size := cell_lt' hc
  exact ⟨g, e, hq _ hp hl, (World.cell?_of_block (a := ⟨g, j, none⟩) (hk _ hp hl)).trans hc⟩
theorem SRowP.below {P : Nat → Prop} {w w' : World} {A : Option Addr} {L : List ByteArray} (h : SRowP P w A L) (hb : Below w.heap.size w w') : SRowP P w' A L := h.keep (fun b _ hl => hb.block b hl) (fun b hp _ => hp)
theorem SRowP.srow {P : Nat → Prop} {w : World} {A : Option Addr} {L : List ByteArray} (h : SRowP P w A L) : SRow w A L := fun j hj => by
  obtain ⟨g, e, _, hc⟩ := h j hj
  exact ⟨g, e, hc⟩
theorem SRowP.of_own {w : World} {base B : Nat} {A : Option Addr} {c : Nat} {L : List ByteArray} (h : w.ownsRow base 9 1 (.slice A L.length c) L.length (strV L)) (hB : B ≤ base) : SRowP (fun b => B ≤ b) w A L := fun j hj => by
  obtain ⟨A', c', e, hr⟩ := SRow.of_own h
  injection e with e1 e2 e3
  subst e1
  obtain ⟨g, e4, hc⟩ := hr j hj
  subst e4
  exact ⟨g, rfl, Nat.le_trans hB (h.lt g rfl).1, hc⟩
structure QIs (P : Nat → Prop) (w : World) (e : PE) : Prop where
  str : SRowP P w e.F e.fs
  skip : IsP P w e.x e.x.d e.B e.m
theorem QIs.keep {P Q : Nat → Prop} {w w' : World} {e : PE} (h : QIs P w e) (hk : ∀ b, P b → b < w.heap.size → w'.heap[b]? = w.heap[b]?) (hq : ∀ b, P b → b < w.heap.size → Q b) : QIs Q w' e :=
  ⟨h.str.keep hk hq, IsP.keep hk hq _ _ _ _ h.skip⟩
/-- Between two pages. -/
structure ZI (w : World) (B3 : Nat) (fv : Value) (qs : List PE) (k : Nat) (es : List PE) (u : Value) (wr : World) : Prop where
  le : k ≤ qs.length
  len : es.length = k
  val : ∀ (i : Nat) (h : i < es.length) (h2 : i < qs.length), es[i].nm = qs[i].nm ∧ es[i].fs = qs[i].fs ∧ es[i].x = qs[i].x
  own : wr.ownsRow (B3 + 1) 42 8 u k (peC es)
  is : ∀ e ∈ es, QIs (fun b => B3 + 1 ≤ b ∧ some b ≠ u.ownBlock) wr e
  box : wr.heap[B3]? = some (.cells #[fv, u] 30 (0, 0))
  below : Below w.heap.size w wr
  ge : w.heap.size ≤ B3
theorem ZI.step {w : World} {B3 : Nat} {fv : Value} {qs : List PE} {k : Nat} {es : List PE} {u : Value} {wr V W6 : World} {e : PE} {gg cap : Nat} {tmp : Obj} (h : ZI w B3 fv qs k es u wr) (hk : k < qs.length) (he : e.nm = qs[k].nm ∧ e.fs = qs[k].fs ∧ e.x = qs[k].x) (hb : Below wr.heap.size wr V) (hise : QIs (fun b => wr.heap.size ≤ b) V e)
    (hown6 : W6.ownsRow (B3 + 1) 42 8 (.slice (some ⟨gg, 0, none⟩) (k + 1) cap) (k + 1) (peC es ++ pgC e)) (hgrow6 : (V.alloc tmp).grownBy W6 u.ownBlock) (hat6 : u.ownBlock = some gg ∨ gg = V.heap.size + 1) :
    ZI w B3 fv qs (k + 1) (es ++ [e]) (.slice (some ⟨gg, 0, none⟩) (k + 1) cap) (W6.setCell ⟨B3, 1, none⟩ (.slice (some ⟨gg, 0, none⟩) (k + 1) cap)) := by
  have hs := hb.size
  have hbs := h.below.size
  have hge := h.ge
  have hgg : B3 + 1 ≤ gg := (hown6.lt gg rfl).1
  have hB3 : B3 < wr.heap.size := (Array.getElem?_eq_some_iff.1 h.box).1
  have hge : Value.ownBlock (.slice (some ⟨gg, 0, none⟩) (k + 1) cap) = some gg := rfl
  have hov : ∀ g, u.ownBlock = some g → B3 + 1 ≤ g ∧ g < wr.heap.size := fun g hg => h.own.lt g hg
  have f5 : ∀ b, b < V.heap.size → some b ≠ u.ownBlock → b ≠ B3 → (W6.setCell ⟨B3, 1, none⟩ (.slice (some ⟨gg, 0, none⟩) (k + 1) cap)).heap[b]? = V.heap[b]? := fun b hl hne hx =>
    (Below.heap_setCell W6 ⟨B3, 1, none⟩ _ b hx).trans (app_keep hgrow6 hl hne)
  have hB3u : some B3 ≠ u.ownBlock := fun e => by have := hov B3 e.symm; omega
  refine ⟨hk, by simp [h.len], fun i hi1 hi2 => ?_, ?_, fun q hq => ?_, ?_, ?_, h.ge⟩
  · by_cases hie : i < es.length
    · rw [List.getElem_append_left hie]; exact h.val i hie hi2
    · have e9 : i = es.length := by simp at hi1; omega
      subst e9
      have hkk := h.len
      subst hkk
      simp only [List.getElem_concat_length]
      exact he
  · rw [peC_snoc]
    refine World.ownsRow.kept (row := some B3) hown6 ⟨rfl, rfl, rfl, by simp [World.setCell], fun k _ hk => Below.heap_setCell _ _ _ k (fun e => hk (by rw [e]))⟩ (.inr ?_)
    rw [hge]; intro e; injection e with e; omega
  · rcases List.mem_append.1 hq with hq | hq
    · refine (h.is q hq).keep (fun b hb2 hl => (f5 b (by omega) hb2.2 (by have := hb2.1; omega)).trans (hb.block b hl)) (fun b hb2 hl => ⟨hb2.1, ?_⟩)
      rw [hge]; intro e; injection e with e
      rcases hat6 with g | g
      · exact hb2.2 (by rw [g, e])
      · omega
    · simp at hq; subst hq
      refine hise.keep (fun b hb2 hl => ?_) (fun b hb2 hl => ⟨?_, ?_⟩)
      · have hb' : wr.heap.size ≤ b := hb2
        exact f5 b hl (fun e => by have := (hov b e.symm).2; omega) (by omega)
      · have hb' : wr.heap.size ≤ b := hb2
        omega
      · have hb' : wr.heap.size ≤ b := hb2
        rw [hge]; intro e; injection e with e
        rcases hat6 with g | g
        · have := (hov gg g).2; omega
        · omega
  · have h6 : W6.heap[B3]? = _ := ((app_keep hgrow6 (by omega) hB3u).trans (hb.block B3 hB3)).trans h.box
    exact blk_set h6 1 _
  · refine ⟨?_, ?_, ?_, ?_, fun b hb9 => ?_⟩
    · exact hgrow6.os.trans (hb.os.trans h.below.os)
    · exact hgrow6.tape.trans (hb.tape.trans h.below.tape)
    · exact hgrow6.output.trans (hb.output.trans h.below.output)
    · have h2 := hgrow6.size
      simp [World.setCell] at h2 ⊢; omega
    · have h9 : b < wr.heap.size := by omega
      exact (f5 b (by omega) (fun e => by have := (hov b e.symm).1; omega) (by omega)).trans ((hb.block b h9).trans (h.below.block b hb9))
theorem own_pgs {w : World} {base k : Nat} {v : Value} {es : List PE} (h : w.ownsRow base 42 8 v k (peC es)) (hk : es.length = k) : ∃ A c, v = .slice A es.length c ∧ Pgs w A es := by
  subst hk
  rcases Nat.eq_zero_or_pos es.length with h0 | h0
  · obtain ⟨A, c, e⟩ := GenL.own_slice h
    exact ⟨A, c, e, fun i hi => absurd hi (by omega)⟩
  · obtain ⟨g, cap, e, _, _, _, _, hc⟩ := GenL.own_form h h0
    refine ⟨_, cap, e, fun i hi => ⟨_, rfl, ?_⟩⟩
    rw [add_block]
    have hc : ∀ j, j < 8 → w.cell? ⟨g, i * 8 + j, none⟩ = (pgC es[i])[j]? := fun j hj => (hc _ (by omega)).trans (peC_at es i j hi hj)
    exact ⟨hc 0 (by decide), hc 1 (by decide), hc 2 (by decide), hc 3 (by decide), hc 4 (by decide), hc 5 (by decide), hc 6 (by decide), hc 7 (by decide)⟩
/-- A copy of a form: the pages. -/
def FOut (ps : List PE) (w : World) (r : Ending) (w' : World) : Prop :=
  ∃ (FA : Option Addr) (fn fc : Nat) (es : List PE) (A : Option Addr) (c : Nat), r = .returned (.agg #[.slice FA fn fc, .slice A es.length c]) ∧ es.length = ps.length ∧ (∀ (i : Nat) (h : i < es.length) (h2 : i < ps.length), es[i].nm = ps[i].nm ∧ es[i].fs = ps[i].fs ∧ es[i].x = ps[i].x) ∧ Pgs w' A es ∧ (∀ e ∈ es, SRow w' e.F e.fs ∧ Is w' e.x e.x.d e.B e.m) ∧ Below w.heap.size w w'
set_option maxRecDepth 100000 in
set_option maxHeartbeats 400000000 in
theorem formCopy_any (FA : Option Addr) (fn fc : Nat) (ps : List PE) (PA : Option Addr) (pc : Nat) (w : World) (hm : ps.length ≤ 1048576) (hp : Pgs w PA ps) (ho : PgsOk w ps) (hlp : ∀ e ∈ ps, e.fs.length ≤ 1048576 ∧ e.x.nodes ≤ 1048576)
    (hF : ∀ V, Below w.heap.size w V → Calls Try.prog 14 #[.slice FA fn fc] V fun r w' => (∃ A n c, r = .returned (.slice A n c)) ∧ Below V.heap.size V w') :
    Calls Try.prog 7 #[.agg #[.slice FA fn fc, .slice PA ps.length pc]] w (FOut ps w) := by
  obtain ⟨i0, hi, hz0, hz1, hz2⟩ := info_parts infoPg
  obtain ⟨s0, hsi, hsz0, hsz1, hsz2⟩ := info_parts NmA.infoStr
  have HP := Lib.hid hp
  have HO := Lib.hid ho
  have HLp := Lib.hid hlp
  have HF := Lib.hid hF
  obtain ⟨W2, hW2⟩ : ∃ V, (w.alloc (.cells #[.slice FA fn fc, .slice PA ps.length pc] 30)).alloc (.cells #[.slice none 0 0, .slice none 0 0] 30) = V := ⟨_, rfl⟩
  obtain ⟨B1, hB1⟩ : ∃ B, w.heap.size = B := ⟨_, rfl⟩
  have hb2 : Below w.heap.size w W2 := by rw [← hW2]; exact b_more (b_new w _) _
  have hk1 : W2.heap[B1]? = some (.cells #[.slice FA fn fc, .slice PA ps.length pc] 30 (0, 0)) := by
    rw [← hW2, ← hB1, (b_new (w.alloc _) _).block _ (by simp)]
    exact World.alloc_heap_new w _
  have hk2 : W2.heap[B1 + 1]? = some (.cells #[.slice none 0 0, .slice none 0 0] 30 (0, 0)) := by
    rw [← hW2, ← hB1]
    have := World.alloc_heap_new (w.alloc (.cells #[.slice FA fn fc, .slice PA ps.length pc] 30)) (.cells #[.slice none 0 0, .slice none 0 0] 30)
    simpa using this
  have c0 : W2.cell? ⟨B1, 0, none⟩ = some (.slice FA fn fc) := by simp [World.cell?, hk1]
  have hB1l : w.heap.size ≤ B1 := Nat.le_of_eq hB1
  have HW2 := Lib.hid hW2
  have HB1 := Lib.hid hB1
  have HB2 := Lib.hid hb2
  have HK1 := Lib.hid hk1
  have HK2 := Lib.hid hk2
  clear hp ho hlp hF hW2 hB1 hb2 hk1 hk2
  go_enter Try.func7, Try.ntmps7
  go_upto_region 1 with fail
  rw [HW2.out, HB1.out]
  go_wp2_with fail
  refine (HF.out _ HB2.out).mono ?_; rintro r v1 ⟨⟨fA, fm, fq0, rfl⟩, hb1⟩
  have hw1 := b_trans HB2.out hb1
  have h1 := (hb1.block _ (Array.getElem?_eq_some_iff.1 HK1.out).1).trans HK1.out
  have h2 := (hb1.block _ (Array.getElem?_eq_some_iff.1 HK2.out).1).trans HK2.out
  obtain ⟨W4, hW4⟩ : ∃ V, v1.alloc (.cells #[.slice fA fm fq0, .slice none 0 0] 30) = V := ⟨_, rfl⟩
  obtain ⟨B3, hB3⟩ : ∃ B, v1.heap.size = B := ⟨_, rfl⟩
  have hb4 := b_new v1 (.cells #[.slice fA fm fq0, .slice none 0 0] 30)
  have hk3 := World.alloc_heap_new v1 (.cells #[.slice fA fm fq0, .slice none 0 0] 30)
  rw [hW4] at hb4 hk3
  rw [hB3] at hk3
  have hs3 : B1 < v1.heap.size := (Array.getElem?_eq_some_iff.1 h1).1
  have hs4 : B1 + 1 < v1.heap.size := (Array.getElem?_eq_some_iff.1 h2).1
  have hI : ZI v1 B3 (.slice fA fm fq0) ps 0 [] (.slice none 0 0) W4 := ⟨Nat.zero_le _, rfl, fun i h => absurd h (by simp), World.ownsRow_nil _ _ _ _, fun e he => by simp at he, hk3, hb4, Nat.le_of_eq hB3⟩
  have c1 : W4.cell? ⟨B1, 1, none⟩ = some (.slice PA ps.length pc) := by
    have := (hb4.block _ hs3).trans h1
    simp [World.cell?, this]
  have HI := Lib.hid hI
  have HW4 := Lib.hid hW4
  have HB3 := Lib.hid hB3
  have HW1 := Lib.hid hw1
  have HH2 := Lib.hid h2
  have HS4 := Lib.hid hs4
  clear hI hW4 hB3 hw1 h1 h2 hb1 hb4 hk3 hs3 hs4
  go_upto_region 2 with fail
  rw [HW4.out, HB3.out]
  go_wp2_with fail
  go_loopw [5, 13] (fun _ i wr => ∃ (k : Nat) (es : List PE) (u : Value), i = .int .i64 k ∧ ZI v1 B3 (.slice fA fm fq0) ps k es u wr) (fun _ i _ => ps.length - (intOf i).toNat)
  case atStart => exact ⟨0, [], _, rfl, HI.out⟩
  case round =>
    obtain ⟨k, es, u, rfl, hV⟩ := hrel
    have hk := hV.le
    have hbw := b_trans HW1.out hV.below
    by_cases hlt : k < ps.length
    · obtain ⟨ad, rfl, hat⟩ := HP.out.below hbw k hlt
      have hoe := (HO.out ps[k] (List.getElem_mem hlt)).below hbw
      obtain ⟨hle1, hle2⟩ := HLp.out ps[k] (List.getElem_mem hlt)
      obtain ⟨e, hek⟩ : ∃ e, ps[k] = e := ⟨_, rfl⟩
      rw [hek] at hat hoe hle1 hle2
      obtain ⟨q0, q1, q2, q3, q4, q5, q6, q7⟩ := hat
      obtain ⟨W5, hW5⟩ : ∃ V, wr.alloc (.cells #[.string e.nm, .slice e.F e.fs.length e.fc, .int .i64 e.x.d.op, .int .i64 e.x.d.k, .int .i64 e.x.d.n, .string e.x.d.s, .string e.x.d.nm, .slice e.B e.m e.c] 42) = V := ⟨_, rfl⟩
      obtain ⟨B5, hB5⟩ : ∃ B, wr.heap.size = B := ⟨_, rfl⟩
      have hb5 := b_new wr (.cells #[.string e.nm, .slice e.F e.fs.length e.fc, .int .i64 e.x.d.op, .int .i64 e.x.d.k, .int .i64 e.x.d.n, .string e.x.d.s, .string e.x.d.nm, .slice e.B e.m e.c] 42)
      have hblk5 := World.alloc_heap_new wr (.cells #[.string e.nm, .slice e.F e.fs.length e.fc, .int .i64 e.x.d.op, .int .i64 e.x.d.k, .int .i64 e.x.d.n, .string e.x.d.s, .string e.x.d.nm, .slice e.B e.m e.c] 42)
      have hsz5 : W5.heap.size = wr.heap.size + 1 := by rw [← hW5]; simp
      rw [hW5] at hb5 hblk5
      rw [hB5] at hblk5
      have hs5 : B5 < W5.heap.size := (Array.getElem?_eq_some_iff.1 hblk5).1
      have hB3l : B3 < wr.heap.size := (Array.getElem?_eq_some_iff.1 hV.box).1
      have hB53 : B5 ≠ B3 := by omega
      have hps : ∀ V : World, V.heap[B5]? = some (.cells #[.string e.nm, .slice e.F e.fs.length e.fc, .int .i64 e.x.d.op, .int .i64 e.x.d.k, .int .i64 e.x.d.n, .string e.x.d.s, .string e.x.d.nm, .slice e.B e.m e.c] 42 (0, 0)) → V.cell? ⟨B5, 0, none⟩ = some (.string e.nm) ∧ V.cell? ⟨B5, 1, none⟩ = some (.slice e.F e.fs.length e.fc) ∧ V.cell? ⟨B5, 2, none⟩ = some (.int .i64 e.x.d.op) ∧ V.cell? ⟨B5, 3, none⟩ = some (.int .i64 e.x.d.k) ∧ V.cell? ⟨B5, 4, none⟩ = some (.int .i64 e.x.d.n) ∧ V.cell? ⟨B5, 5, none⟩ = some (.string e.x.d.s) ∧ V.cell? ⟨B5, 6, none⟩ = some (.string e.x.d.nm) ∧ V.cell? ⟨B5, 7, none⟩ = some (.slice e.B e.m e.c) := fun V h => ⟨by simp [World.cell?, h], by simp [World.cell?, h], by simp [World.cell?, h], by simp [World.cell?, h], by simp [World.cell?, h], by simp [World.cell?, h], by simp [World.cell?, h], by simp [World.cell?, h]⟩
      have hcell : ∀ V : World, Below W5.heap.size W5 V → V.cell? ⟨B5, 0, none⟩ = some (.string e.nm) ∧ V.cell? ⟨B5, 1, none⟩ = some (.slice e.F e.fs.length e.fc) ∧ V.cell? ⟨B5, 2, none⟩ = some (.int .i64 e.x.d.op) ∧ V.cell? ⟨B5, 3, none⟩ = some (.int .i64 e.x.d.k) ∧ V.cell? ⟨B5, 4, none⟩ = some (.int .i64 e.x.d.n) ∧ V.cell? ⟨B5, 5, none⟩ = some (.string e.x.d.s) ∧ V.cell? ⟨B5, 6, none⟩ = some (.string e.x.d.nm) ∧ V.cell? ⟨B5, 7, none⟩ = some (.slice e.B e.m e.c) := fun V hV9 => hps V ((hV9.block _ hs5).trans hblk5)
      have hrw : ∀ V : World, Below W5.heap.size W5 V → TRow V e.F e.fs := fun V hV9 => (hoe.row.below hb5).below hV9
      have hc : ∀ V : World, Below W5.heap.size W5 V → Calls Try.prog 15 #[.agg #[.int .i64 e.x.d.op, .int .i64 e.x.d.k, .int .i64 e.x.d.n, .string e.x.d.s, .string e.x.d.nm, .slice e.B e.m e.c]] V (Made e.x V) := fun V hV9 => (NmR.refCopy_any e.x e.x.d e.B e.m e.c V hle2 ((hoe.skip.below hb5).below hV9)).mono fun e w' h => NmS.made_of hoe.skip h
      have hbox5 : ∀ V : World, Below W5.heap.size W5 V → V.heap[B3]? = some (.cells #[.slice fA fm fq0, u] 30 (0, 0)) := fun V hV9 => (hV9.block _ (by omega)).trans ((hb5.block _ hB3l).trans hV.box)
      have hu : ∀ V : World, Below W5.heap.size W5 V → (Instr.loadAt 22 (.pointer (some ⟨B3, 1, none⟩))).run Try.prog V = .ok u V := fun V hV9 => by
        have c : V.cell? ⟨B3, 1, none⟩ = some u := by simp [World.cell?, hbox5 V hV9]
        simp [go_sem, c]
      have hzc : ∀ V : World, Below W5.heap.size W5 V → V.cell? ⟨B3, 1, none⟩ = some u ∧ B3 < V.heap.size := fun V hV9 => ⟨by simp [World.cell?, hbox5 V hV9], (Array.getElem?_eq_some_iff.1 (hbox5 V hV9)).1⟩
      obtain ⟨z0, y0⟩ := hzc W5 (Below.refl _ _)
      have HZ := Lib.hid hzc
      clear hzc
      have hown : ∀ V : World, Below W5.heap.size W5 V → V.ownsRow (B3 + 1) 42 8 u k (peC es) := fun V hV9 => GenL.own_below (GenL.own_below hV.own hb5) hV9
      have hsz : ∀ (V : World) (o : Obj), Below W5.heap.size W5 V → B3 + 1 ≤ (V.alloc o).heap.size := fun V o hV9 => by
        have h3 := hV9.size
        simp; omega
      have happ : ∀ (w6 w7 : World) (o : Obj), Below W5.heap.size W5 w6 → (w6.alloc o).grownBy w7 u.ownBlock → w7.heap[B5]? = some (.cells #[.string e.nm, .slice e.F e.fs.length e.fc, .int .i64 e.x.d.op, .int .i64 e.x.d.k, .int .i64 e.x.d.n, .string e.x.d.s, .string e.x.d.nm, .slice e.B e.m e.c] 42 (0, 0)) ∧ w7.cell? ⟨B3, 1, none⟩ = some u ∧ w7.frozen? ⟨B3, 1, none⟩ = false := fun w6 w7 o h1 h2 => by
        have h5 : w6.heap[B5]? = _ := (h1.block _ hs5).trans hblk5
        have h7 : w7.heap[B5]? = _ := (app_keep h2 (Array.getElem?_eq_some_iff.1 h5).1 (fun e => by have := (hV.own.lt B5 e.symm).2; omega)).trans h5
        have h6 := hbox5 w6 h1
        have h8 : w7.heap[B3]? = _ := (app_keep h2 (Array.getElem?_eq_some_iff.1 h6).1 (fun e => by have := (hV.own.lt B3 e.symm).1; omega)).trans h6
        exact ⟨h7, by simp [World.cell?, h8], by simp [World.frozen?, h8]⟩
      have hset : ∀ (V : World) (v : Value), V.heap[B5]? = some (.cells #[.string e.nm, .slice e.F e.fs.length e.fc, .int .i64 e.x.d.op, .int .i64 e.x.d.k, .int .i64 e.x.d.n, .string e.x.d.s, .string e.x.d.nm, .slice e.B e.m e.c] 42 (0, 0)) → (V.setCell ⟨B3, 1, none⟩ v).heap[B5]? = some (.cells #[.string e.nm, .slice e.F e.fs.length e.fc, .int .i64 e.x.d.op, .int .i64 e.x.d.k, .int .i64 e.x.d.n, .string e.x.d.s, .string e.x.d.nm, .slice e.B e.m e.c] 42 (0, 0)) := fun V v h => (Below.heap_setCell V ⟨B3, 1, none⟩ v B5 hB53).trans h
      have HPs := Lib.hid hps
      have HSet := Lib.hid hset
      have HRw := Lib.hid hrw
      have HU := Lib.hid hu
      have HApp := Lib.hid happ
      have HC := Lib.hid hc
      have HCell := Lib.hid hcell
      obtain ⟨LL, hLL⟩ : ∃ L, peC es = L := ⟨_, rfl⟩
      rw [hLL] at hown
      have HLL := Lib.hid hLL
      have HOwn := Lib.hid hown
      have HSz := Lib.hid hsz
      have HV := Lib.hid hV
      have HW5 := Lib.hid hW5
      have HB5 := Lib.hid hB5
      have HBw5 := Lib.hid hb5
      have HSz5 := Lib.hid hsz5
      have HEk := Lib.hid hek
      have hbl := Below.refl W5.heap.size W5
      obtain ⟨k0, k1, k2, k3, k4, k5, k6, k7⟩ := hcell W5 hbl
      have hk9 : k ≤ 1048576 := by omega
      clear hps hset hrw hu happ hc hcell hown hsz hV hW5 hB5 hb5 hsz5 hek hblk5 hoe hbox5 hbw hLL hle2 hs5 hB3l hB53
      go_upto_region 5 with fail
      rw [HW5.out, HB5.out]
      first | (go_region_law (first | (refine step_append_lies _ (by rfl) _ _ _ (by rfl) (B3 + 1) 42 i0 _ 8 120 Try.underlying22 hi hz0 hz1 hz2 rfl (by decide) u k LL (by rfl) ((HOwn.out _ hbl).alloc _) ⟨w8.heap.size, 0, none⟩ 1 1 [.string e.nm, .slice F e.fs.length fq, .int .i64 e.x.d.op, .int .i64 e.x.d.k, .int .i64 e.x.d.n, .string e.x.d.s, .string e.x.d.nm, .slice B m c] (by rfl) (by rfl) (World.news_of_block (cs := #[.string e.nm, .slice F e.fs.length fq, .int .i64 e.x.d.op, .int .i64 e.x.d.k, .int .i64 e.x.d.n, .string e.x.d.s, .string e.x.d.nm, .slice B m c]) (t := 42) (fr := (0, 0)) (heap_alloc_new w8 _)) (by simp [Value.oneCell']) (by decide) (by unfold maxLen; omega) (by omega) (HSz.out _ _ hbl) (w8.heap.size + 1) (by simp) ?_; intro gg cap w10 hown10 hgrow10 hat10 hlt10; obtain ⟨hS6, z0, z1⟩ := HApp.out _ w10 _ hbl hgrow10; have hS7 := HPs.out w10 hS6; have hS8 := fun v => HPs.out _ (HSet.out w10 v hS6); have H10 := Lib.hid (And.intro hown10 (And.intro hgrow10 (And.intro hat10 (And.intro hR (And.intro hK hbl))))); clear hown10 hgrow10 hat10 hlt10 hS6) | (refine step_append_copy (by rfl) _ _ _ (by rfl) 9 s0 (.string ⟨#[]⟩) Try.underlying35 hsi hsz0 hsz1 hsz2 rfl e.fs e.F e.fc (by rfl) (by rfl) (HRw.out _ (by first | exact hbl | exact b_drew hbl)) hle1 ?_; intro F fq w8 hown8 hb8; (try have hK := IsP.below hK hb8); have hR : SRowP (fun b => W5.heap.size ≤ b) w8 F e.fs := SRowP.of_own hown8 (by first | exact hbl.size | exact (b_drew hbl).size); have hbl : Below W5.heap.size W5 w8 := (by first | exact hbl.trans (hb8.mono hbl.size) | exact (b_drew hbl).trans (hb8.mono hbl.size)); obtain ⟨k0, k1, k2, k3, k4, k5, k6, k7⟩ := HCell.out w8 hbl; obtain ⟨z0, y0⟩ := HZ.out w8 hbl; clear hown8 hb8) | (go_simp; go_at_call 15; (with_reducible refine (HC.out _ ?_).mono ?_); (first | exact hbl | exact b_drew hbl); rintro r w8 ⟨d, B, m, c, rfl, hi8, hb8⟩; obtain rfl : d = e.x.d := ExS.is_d (IsP.is _ _ _ _ hi8); (try have hR := SRowP.below hR hb8); have hK : IsP (fun b => W5.heap.size ≤ b) w8 e.x e.x.d B m := IsP.keep (fun b _ _ => rfl) (fun b hb9 _ => Nat.le_trans (by first | exact hbl.size | exact (b_drew hbl).size) hb9) _ _ _ _ hi8; have hbl : Below W5.heap.size W5 w8 := (by first | exact hbl.trans (hb8.mono hbl.size) | exact (b_drew hbl).trans (hb8.mono hbl.size)); obtain ⟨k0, k1, k2, k3, k4, k5, k6, k7⟩ := HCell.out w8 hbl; obtain ⟨z0, y0⟩ := HZ.out w8 hbl; clear hi8 hb8))) | (fail)
      all_goals
        have hown10 := H10.out.1
        rw [← HLL.out] at hown10
        have hbl8 := H10.out.2.2.2.2.2
        have hise : QIs (fun b => wr.heap.size ≤ b) w8 ⟨e.nm, e.fs, F, fq, e.x, B, m, c⟩ := ⟨H10.out.2.2.2.1.keep (fun b _ _ => rfl) (fun b hb9 _ => by have h1 := HSz5.out; have h9 : W5.heap.size ≤ b := hb9; omega), IsP.keep (fun b _ _ => rfl) (fun b hb9 _ => by have h1 := HSz5.out; have h9 : W5.heap.size ≤ b := hb9; omega) _ _ _ _ H10.out.2.2.2.2.1⟩
        have hN := HV.out.step hlt (by rw [HEk.out]; exact ⟨rfl, rfl, rfl⟩) (b_trans HBw5.out hbl8) hise hown10 H10.out.2.1 (by first | exact H10.out.2.2.1 | (have h := H10.out.2.2.1; simp at h; exact h))
        have HN := Lib.hid hN
        clear hN hise hbl8 hown10 hS7 hS8
        go_wp2_with fail
        go_roundw
        case rel => exact ⟨k + 1, _, _, by go_num, HN.out⟩
        case measure => simp [intOf]; omega
    · obtain rfl : k = ps.length := by omega
      obtain ⟨A, c, hu, hpg⟩ := own_pgs hV.own hV.len
      subst hu
      have hx2 : wr.heap[B1 + 1]? = _ := (hV.below.block _ HS4.out).trans HH2.out
      have hx3 := hV.box
      have hlen := hV.len
      have n2 : ∀ o, wr.cell? ⟨B1 + 1, o, none⟩ = (#[.slice none 0 0, .slice none 0 0] : Array Value)[o]? := fun o => by simp [World.cell?, hx2]
      have z2 : ∀ o, wr.frozen? ⟨B1 + 1, o, none⟩ = false := fun o => by simp [World.frozen?, hx2]
      have n3 : ∀ o, wr.cell? ⟨B3, o, none⟩ = (#[.slice fA fm fq0, .slice A es.length c] : Array Value)[o]? := fun o => by simp [World.cell?, hx3]
      have hge := hV.ge
      have hs4 := HS4.out
      have hout : ∀ V, V = (wr.setCell ⟨B1 + 1, 0, none⟩ (.slice fA fm fq0)).setCell ⟨B1 + 1, 1, none⟩ (.slice A es.length c) → FOut ps w (.returned (.agg #[.slice fA fm fq0, .slice A es.length c])) V := fun V hVe => by
        have hk9 : ∀ b, b ≠ B1 + 1 → V.heap[b]? = wr.heap[b]? := fun b hb => by
          rw [hVe, Below.heap_setCell _ ⟨B1 + 1, 1, none⟩ _ b hb, Below.heap_setCell _ ⟨B1 + 1, 0, none⟩ _ b hb]
        refine ⟨fA, fm, fq0, es, A, c, rfl, hlen, hV.val, fun i hi => ?_, fun e he => ?_, ?_⟩
        · obtain ⟨a, e, hf⟩ := hpg i hi
          refine ⟨a, e, hf.of_block (hk9 _ ?_)⟩
          rw [block_of_add]
          intro e9
          have := (hV.own.lt a.block (by rw [e]; rfl)).1
          omega
        · have h9 := (hV.is e he).keep (Q := fun _ => True) (fun b hb hl => hk9 b (by have := hb.1; omega)) (fun b _ _ => trivial)
          exact ⟨h9.str.srow, IsP.is _ _ _ _ h9.skip⟩
        · rw [hVe]
          exact (hbw.setCell (p := ⟨B1 + 1, 0, none⟩) (by show w.heap.size ≤ B1 + 1; omega) _).setCell (p := ⟨B1 + 1, 1, none⟩) (by show w.heap.size ≤ B1 + 1; omega) _
      have HOut := Lib.hid (hout _ rfl)
      clear hout hV hpg hbw hx2 hx3 hge hlen
      go_wp2_with fail
      refine bodyPost_ret (v := .agg #[.slice fA fm fq0, .slice A es.length c]) (by simp [results, Try.results7, go_sem, n2]) rfl HOut.out
end Go.Proofs.Ythgcmficmodhiaa.FmC
