/- The statements' generator of facts that set inputs. -/
import Derived.Test.YtdlfhldboagbeaaFctBase
import Derived.Test.YtdlfhldboagbeaaRawN
import Derived.Test.YtdlfhldboagbeaaFrmBase
import Derived.Test.YtdlfhldboagbeaaGenTop
import Derived.Deep.AppendLies
import Derived.Deep.RegionLaw
import Derived.RegionTactic
import Derived.BigQuiet
import Derived.Deep.QuietTactic
import Derived.Deep.CutBlock
import Derived.Deep.DeepCutAuto
import Derived.Deep.RegionHeld3
import Derived.Test.YtdlfhldboagbeaaNmPut
namespace Go.Proofs.Ytdlfhldboagbeaa.InpG
open Go.RowKit
open ValM LexM NumM ExM TyM EvM Kit ExL ExP RawV Within RawL RawN GenL EvF FrmM NmP
set_option linter.unusedVariables false

def fcR : List Fc → List Value
  | [] => []
  | e :: l => fcC e ++ fcR l
theorem fcR_app : ∀ (a b : List Fc), fcR (a ++ b) = fcR a ++ fcR b
  | [], b => rfl
  | e :: l, b => by show fcC e ++ fcR (l ++ b) = _; rw [fcR_app l b, ← List.append_assoc]; rfl
theorem fcR_snoc (es : List Fc) (e : Fc) : fcR (es ++ [e]) = fcR es ++ fcC e := by
  rw [fcR_app]; show _ ++ (fcC e ++ []) = _; rw [List.append_nil]
theorem fcR_len : ∀ (es : List Fc), (fcR es).length = es.length * 7
  | [] => rfl
  | e :: l => by show (fcC e ++ fcR l).length = _; rw [List.length_append, fcR_len l]; simp [fcC]; omega
theorem fcR_at : ∀ (es : List Fc) (i j : Nat) (h : i < es.length), j < 7 → (fcR es)[i * 7 + j]? = (fcC es[i])[j]?
  | e :: l, 0, j, h, hj => by
    show (fcC e ++ fcR l)[0 * 7 + j]? = _
    rw [Nat.zero_mul, Nat.zero_add, List.getElem?_append_left (by simpa [fcC] using hj)]; rfl
  | e :: l, i + 1, j, h, hj => by
    show (fcC e ++ fcR l)[(i + 1) * 7 + j]? = _
    rw [List.getElem?_append_right (by simp [fcC]; omega), show (i + 1) * 7 + j - (fcC e).length = i * 7 + j by simp [fcC]; omega, fcR_at l i j (by simpa using h) hj]; rfl
theorem fcs_of {w : World} {g : Nat} {es : List Fc} (hc : ∀ j, j < es.length * 7 → w.cell? ⟨g, j, none⟩ = (fcR es)[j]?) : Fcs w (some ⟨g, 0, none⟩) es := fun i hi => by
  refine ⟨_, rfl, ?_⟩
  rw [add_block]
  refine fcAt_of fun j hj => ?_
  rw [hc _ (by omega), fcR_at es i j hi hj]
theorem own_fcs {w : World} {base k : Nat} {v : Value} {es : List Fc} (h : w.ownsRow base 37 7 v k (fcR es)) (hk : es.length = k) : ∃ A c, v = .slice A es.length c ∧ Fcs w A es := by
  subst hk
  rcases Nat.eq_zero_or_pos es.length with h0 | h0
  · obtain ⟨A, c, e⟩ := own_slice h
    exact ⟨A, c, by rw [e], fun i hi => absurd hi (by omega)⟩
  · obtain ⟨g, cap, e, _, _, _, _, hc⟩ := own_form h h0
    exact ⟨_, cap, by rw [e], fcs_of hc⟩
/-- What a field is told. -/
def fctOf (f : GenL.Fd) (r : Rw) : Fc := ⟨f.nm, 0, 0, ⟨#[]⟩, ⟨vK f.ty, vN f.ty r.k r.x, vS f.ty r.t⟩⟩
/-- What is told of the first k fields; how often was asked then. -/
def inpV (rs : List Rw) (F : List GenL.Fd) : Nat → List Fc × Nat
  | 0 => ([], 0)
  | k + 1 => ((match F[k]? with
      | none => (inpV rs F k).1
      | some f => if f.kind = 1 ∧ 0 < pick (nextV rs (inpV rs F k).2).k 4 then (inpV rs F k).1 ++ [fctOf f (nextV rs (inpV rs F k).2)] else (inpV rs F k).1), nextA rs (inpV rs F k).2)
theorem inpV_yes {rs : List Rw} {F : List GenL.Fd} {k : Nat} (hk : k < F.length) (h1 : F[k].kind = 1) (h2 : 0 < pick (nextV rs (inpV rs F k).2).k 4) : inpV rs F (k + 1) = ((inpV rs F k).1 ++ [fctOf F[k] (nextV rs (inpV rs F k).2)], nextA rs (inpV rs F k).2) := by
  show (_, _) = _
  rw [List.getElem?_eq_getElem hk]
  simp only [if_pos (And.intro h1 h2)]
theorem inpV_no {rs : List Rw} {F : List GenL.Fd} {k : Nat} (hk : k < F.length) (h : ¬ (F[k].kind = 1 ∧ 0 < pick (nextV rs (inpV rs F k).2).k 4)) : inpV rs F (k + 1) = ((inpV rs F k).1, nextA rs (inpV rs F k).2) := by
  show (_, _) = _
  rw [List.getElem?_eq_getElem hk]
  simp only [if_neg h]
theorem inpV_le (rs : List Rw) (F : List GenL.Fd) : ∀ k, (inpV rs F k).2 ≤ k ∧ (inpV rs F k).1.length ≤ k
  | 0 => ⟨Nat.le_refl _, Nat.le_refl _⟩
  | k + 1 => by
    obtain ⟨h1, h2⟩ := inpV_le rs F k
    have h3 : (inpV rs F (k + 1)).2 = nextA rs (inpV rs F k).2 := rfl
    refine ⟨by rw [h3]; unfold nextA; split <;> omega, ?_⟩
    show (match F[k]? with
      | none => (inpV rs F k).1
      | some f => if f.kind = 1 ∧ 0 < pick (nextV rs (inpV rs F k).2).k 4 then (inpV rs F k).1 ++ [fctOf f (nextV rs (inpV rs F k).2)] else (inpV rs F k).1).length ≤ k + 1
    cases F[k]? with
    | none => simp only; omega
    | some f =>
      simp only
      split
      · rw [List.length_append]; simp; omega
      · omega
/-- What is told: of fields that are there. -/
theorem inpV_mem (rs : List Rw) (F : List GenL.Fd) : ∀ k, ∀ x ∈ (inpV rs F k).1, ∃ (j : Nat) (h : j < F.length) (r : Rw), j < k ∧ F[j].kind = 1 ∧ x = fctOf F[j] r
  | 0, x, hx => by simp [inpV] at hx
  | k + 1, x, hx => by
    have ih : x ∈ (inpV rs F k).1 → ∃ (j : Nat) (h : j < F.length) (r : Rw), j < k + 1 ∧ F[j].kind = 1 ∧ x = fctOf F[j] r := fun h => by
      obtain ⟨j, h1, r, h2, h3⟩ := inpV_mem rs F k x h
      exact ⟨j, h1, r, by omega, h3⟩
    by_cases hk : k < F.length
    · by_cases h : F[k].kind = 1 ∧ 0 < pick (nextV rs (inpV rs F k).2).k 4
      · rw [inpV_yes hk h.1 h.2] at hx
        rcases List.mem_append.1 hx with hx | hx
        · exact ih hx
        · simp at hx; exact ⟨k, hk, _, by omega, h.1, hx⟩
      · rw [inpV_no hk h] at hx; exact ih hx
    · have e : (inpV rs F (k + 1)).1 = (inpV rs F k).1 := by
        show (match F[k]? with
          | none => (inpV rs F k).1
          | some f => if f.kind = 1 ∧ 0 < pick (nextV rs (inpV rs F k).2).k 4 then (inpV rs F k).1 ++ [fctOf f (nextV rs (inpV rs F k).2)] else (inpV rs F k).1) = _
        rw [List.getElem?_eq_none (by omega)]
      rw [e] at hx; exact ih hx
def InpOut (rs : List Rw) (F : List GenL.Fd) (w : World) (e : Ending) (w' : World) : Prop :=
  ∃ (OA : Option Addr) (oc : Nat), e = .returned (.slice OA (inpV rs F F.length).1.length oc) ∧ Fcs w' OA (inpV rs F F.length).1 ∧ w'.ownsRow w.heap.size 37 7 (.slice OA (inpV rs F F.length).1.length oc) (inpV rs F F.length).1.length (fcR (inpV rs F F.length).1) ∧ Below w.heap.size w w'
/-- Between two fields. -/
structure InI (w : World) (A : Option Addr) (rs : List Rw) (c : Nat) (F : List GenL.Fd) (k : Nat) (v : Value) (wr : World) : Prop where
  le : k ≤ F.length
  own : wr.ownsRow (w.heap.size + 2) 37 7 v (inpV rs F k).1.length (fcR (inpV rs F k).1)
  gen : RawL.Gen wr (w.heap.size + 1) A rs.length c (inpV rs F k).2
  size : w.heap.size + 2 ≤ wr.heap.size
  below : Below w.heap.size w wr
theorem infoFc : (Try.prog.info? 37).map (fun i => (i.zero, i.size, i.bytes)) = some (some (.agg #[.string ⟨#[]⟩, .int .i64 0, .int .i64 0, .string ⟨#[]⟩, .int .i64 0, .int .i64 0, .string ⟨#[]⟩]), 7, 80) := by kernel_rfl
/-- The round that adds nothing. V: behind the two boxes and what was drawn. -/
theorem InI.skip {w : World} {A : Option Addr} {rs : List Rw} {c : Nat} {F : List GenL.Fd} {k : Nat} {v : Value} {wr V : World} (h : InI w A rs c F k v wr) (hk : k < F.length) (hn : ¬ (F[k].kind = 1 ∧ 0 < pick (nextV rs (inpV rs F k).2).k 4)) (hg : RawL.Gen V (w.heap.size + 1) A rs.length c (nextA rs (inpV rs F k).2)) (hgr : Gr (w.heap.size + 1) wr V) : InI w A rs c F (k + 1) v V := by
  have e := inpV_no hk hn
  refine ⟨hk, ?_, by rw [e]; exact hg, Nat.le_trans h.size hgr.size, ?_⟩
  · rw [e]
    exact h.own.kept hgr (.inr fun e => by have := (h.own.lt _ e).1; omega)
  · exact h.below.grown hgr h.below.size (fun q e => by injection e with e; omega)
/-- The round that adds a fact. -/
theorem InI.step {w : World} {A : Option Addr} {rs : List Rw} {c : Nat} {F : List GenL.Fd} {k : Nat} {v : Value} {wr V W6 : World} {tmp : Obj} {gg cap : Nat} (h : InI w A rs c F k v wr) (hk : k < F.length) (h1 : F[k].kind = 1) (h2 : 0 < pick (nextV rs (inpV rs F k).2).k 4) (hg : RawL.Gen V (w.heap.size + 1) A rs.length c (nextA rs (inpV rs F k).2)) (hgr : Gr (w.heap.size + 1) wr V)
    (hown : W6.ownsRow (w.heap.size + 2) 37 7 (.slice (some ⟨gg, 0, none⟩) ((inpV rs F k).1.length + 1) cap) ((inpV rs F k).1.length + 1) (fcR (inpV rs F k).1 ++ fcC (fctOf F[k] (nextV rs (inpV rs F k).2)))) (hgrow : (V.alloc tmp).grownBy W6 v.ownBlock) : InI w A rs c F (k + 1) (.slice (some ⟨gg, 0, none⟩) ((inpV rs F k).1.length + 1) cap) W6 := by
  have e := inpV_yes hk h1 h2
  have hsz := hgrow.size
  rw [World.size_alloc] at hsz
  have hs2 := hgr.size
  have hov : ∀ g, v.ownBlock = some g → w.heap.size + 2 ≤ g := fun g hg => (h.own.lt g hg).1
  have hkeep : ∀ b, b < V.heap.size → some b ≠ v.ownBlock → W6.heap[b]? = V.heap[b]? := fun b hb hne => (hgrow.block b (by rw [World.size_alloc]; omega) hne).trans ((b_new V tmp).block b hb)
  have hgl := hg.lt
  refine ⟨hk, ?_, ?_, by have := h.size; omega, ?_⟩
  · rw [e]; simp only [List.length_append, List.length_singleton, fcR_snoc]; exact hown
  · rw [e]; exact (hkeep _ hgl (fun e => by have := hov _ e.symm; omega)).trans hg
  · have hbV : Below w.heap.size w V := h.below.grown hgr h.below.size (fun q e => by injection e with e; omega)
    exact (b_trans hbV (b_new V tmp)).grown hgrow (by rw [World.size_alloc]; have := hbV.size; omega) (fun q e => by have := hov _ e; omega)
def fdBox (f : GenL.Fd) : Obj := .cells #[.string f.nm, .int .i64 f.kind, .int .i64 f.ty, .int .i64 f.d.op, .int .i64 f.d.k, .int .i64 f.d.n, .string f.d.s, .string f.d.nm, .slice f.A f.n f.c] 56
theorem fd_cells {W : World} {B : Nat} {f : GenL.Fd} (h : W.heap[B]? = some (.cells #[.string f.nm, .int .i64 f.kind, .int .i64 f.ty, .int .i64 f.d.op, .int .i64 f.d.k, .int .i64 f.d.n, .string f.d.s, .string f.d.nm, .slice f.A f.n f.c] 56 (0, 0))) : W.cell? ⟨B, 0, none⟩ = some (.string f.nm) ∧ W.cell? ⟨B, 1, none⟩ = some (.int .i64 f.kind) ∧ W.cell? ⟨B, 2, none⟩ = some (.int .i64 f.ty) :=
  ⟨by simp [World.cell?, h], by simp [World.cell?, h], by simp [World.cell?, h]⟩
def rwBox (r : Rw) : Obj := .cells #[.int .i64 r.k, .int .i64 r.x, .int .i64 r.y, .string r.t] 48
theorem rw_cells {W : World} {B : Nat} {r : Rw} (h : W.heap[B]? = some (.cells #[.int .i64 r.k, .int .i64 r.x, .int .i64 r.y, .string r.t] 48 (0, 0))) : W.cell? ⟨B, 0, none⟩ = some (.int .i64 r.k) ∧ W.cell? ⟨B, 1, none⟩ = some (.int .i64 r.x) ∧ W.cell? ⟨B, 2, none⟩ = some (.int .i64 r.y) ∧ W.cell? ⟨B, 3, none⟩ = some (.string r.t) :=
  ⟨by simp [World.cell?, h], by simp [World.cell?, h], by simp [World.cell?, h], by simp [World.cell?, h]⟩
def frBox (FA : Option Addr) (n fc : Nat) (PA : Option Addr) (pn pc : Nat) : Obj := .cells #[.slice FA n fc, .slice PA pn pc] 25
set_option maxRecDepth 100000 in
set_option maxHeartbeats 8000000 in
theorem inputs_any (c : Nat) (A : Option Addr) (rs : List Rw) (F : List GenL.Fd) (FA : Option Addr) (fc : Nat) (PA : Option Addr) (pn pc : Nat) (w : World) (hr : RawsV w A rs c) (hf : Flds w FA F) (hn : F.length ≤ 1000000) :
    Calls Try.prog 8 #[.agg #[.slice FA F.length fc, .slice PA pn pc], .slice A rs.length c] w (InpOut rs F w) := by
  obtain ⟨i0, hi, hz0, hz1, hz2⟩ := info_parts infoFc
  obtain ⟨W1, hW1⟩ : ∃ V, (w.alloc (frBox FA F.length fc PA pn pc)).alloc (.cells #[.slice A rs.length c, .int .i64 0] 46) = V := ⟨_, rfl⟩
  have hbA := b_new w (frBox FA F.length fc PA pn pc)
  have hbB := b_more hbA (.cells #[.slice A rs.length c, .int .i64 0] 46)
  have hbx : W1.heap[w.heap.size]? = some (.cells #[.slice FA F.length fc, .slice PA pn pc] 25 (0, 0)) := by
    rw [← hW1]
    exact ((b_new _ _).block _ (by simp)).trans (World.alloc_heap_new w _)
  have hg1 : RawL.Gen W1 (w.heap.size + 1) A rs.length c 0 := by
    rw [← hW1]
    have := World.alloc_heap_new (w.alloc (frBox FA F.length fc PA pn pc)) (.cells #[.slice A rs.length c, .int .i64 0] 46)
    rw [World.size_alloc] at this
    exact this
  have hs1 : W1.heap.size = w.heap.size + 2 := by rw [← hW1]; simp
  rw [hW1] at hbB
  have hI0 : InI w A rs c F 0 (.slice none 0 0) W1 := ⟨Nat.zero_le _, World.ownsRow_nil _ _ _ _, hg1, by omega, hbB⟩
  have x0 : W1.cell? ⟨w.heap.size, 0, none⟩ = some (.slice FA F.length fc) := by simp [World.cell?, hbx]
  have HI0 := Lib.hid hI0
  have HW1 := Lib.hid hW1
  have HR := Lib.hid hr
  have HF := Lib.hid hf
  obtain ⟨B1, hB1⟩ : ∃ B, w.heap.size = B := ⟨_, rfl⟩
  rw [hB1] at x0
  have HB1 := Lib.hid hB1
  clear hI0 hW1 hr hf hbA hbB hbx hg1 hs1 hB1
  unfold frBox at HW1
  go_enter Try.func8, Try.ntmps8
  go_upto_region 2 with fail
  rw [HW1.out, HB1.out]
  go_wp2_with fail
  go_loopw [6, 8, 9, 16] (fun v _ _ ii wr => ∃ (k : Nat) (v' : Value), v' = v ∧ ii = .int .i64 k ∧ InI w A rs c F k v' wr) (fun _ _ _ ii _ => F.length - (intOf ii).toNat)
  case atStart => exact ⟨0, _, rfl, rfl, HI0.out⟩
  case round =>
    obtain ⟨k, v, rfl, rfl, hV⟩ := hrel
    have hk := hV.le
    obtain ⟨wa, rfl⟩ : ∃ V, V = wr := ⟨_, rfl⟩
    by_cases hlt : k < F.length
    · obtain ⟨ad, rfl, hat⟩ := HF.out.below hV.below k hlt
      obtain ⟨f, hfk⟩ : ∃ f, F[k] = f := ⟨_, rfl⟩
      rw [hfk] at hat
      obtain ⟨q0, q1, q2, q3, q4, q5, q6, q7, q8⟩ := hat
      obtain ⟨W5, hW5⟩ : ∃ V, wa.alloc (fdBox f) = V := ⟨_, rfl⟩
      obtain ⟨B5, hB5⟩ : ∃ B, wa.heap.size = B := ⟨_, rfl⟩
      have hb5 := b_new wa (fdBox f)
      have hblk5 := World.alloc_heap_new wa (fdBox f)
      unfold fdBox at hW5 hb5 hblk5
      rw [hW5] at hb5 hblk5
      rw [hB5] at hblk5
      have hg5 := hV.gen.below hb5
      have hale := (inpV_le rs F k).1
      have hnx := nextV_any (w.heap.size + 1) c (inpV rs F k).2 A rs W5 hg5 (HR.out.below (b_trans hV.below hb5)) (by omega)
      unfold NextV at hnx
      obtain ⟨r, hr⟩ : ∃ r, nextV rs (inpV rs F k).2 = r := ⟨_, rfl⟩
      rw [hr] at hnx
      have HNx := Lib.hid hnx
      have HV := Lib.hid hV
      have HW5 := Lib.hid hW5
      have HB5 := Lib.hid hB5
      have Hb5 := Lib.hid hb5
      have HBlk5 := Lib.hid hblk5
      have HFk := Lib.hid hfk
      have HRr := Lib.hid hr
      clear hnx hV hW5 hB5 hb5 hblk5 hfk hr hg5 hale
      go_upto_region 6 with fail
      rw [HW5.out, HB5.out]
      rw [HB1.out] at HNx
      go_wp2_with fail
      refine HNx.out.mono ?_; rintro e w6 ⟨rfl, ⟨o0, o1, o2, o3⟩, hg6, hgr6⟩
      obtain ⟨W7, hW7⟩ : ∃ V, w6.alloc (rwBox r) = V := ⟨_, rfl⟩
      obtain ⟨B9, hB9⟩ : ∃ B, w6.heap.size = B := ⟨_, rfl⟩
      have hb7 := b_new w6 (rwBox r)
      have hblk9 := World.alloc_heap_new w6 (rwBox r)
      unfold rwBox at hW7 hb7 hblk9
      rw [hW7] at hb7 hblk9
      rw [hB9] at hblk9
      have hB5l : B1 + 2 ≤ B5 := by have h1 := HV.out.size; have h2 := HB5.out; have h3 := HB1.out; omega
      have hblk7 := (hb7.block B5 (Nat.lt_of_lt_of_le (Array.getElem?_eq_some_iff.1 HBlk5.out).1 hgr6.size)).trans ((hgr6.block B5 (Array.getElem?_eq_some_iff.1 HBlk5.out).1 (fun e => by injection e with e; omega)).trans HBlk5.out)
      have hcell : ∀ V : World, Below W7.heap.size W7 V → V.cell? ⟨B5, 0, none⟩ = some (.string f.nm) ∧ V.cell? ⟨B5, 1, none⟩ = some (.int .i64 f.kind) ∧ V.cell? ⟨B5, 2, none⟩ = some (.int .i64 f.ty) ∧ V.cell? ⟨B9, 0, none⟩ = some (.int .i64 r.k) ∧ V.cell? ⟨B9, 1, none⟩ = some (.int .i64 r.x) ∧ V.cell? ⟨B9, 2, none⟩ = some (.int .i64 r.y) ∧ V.cell? ⟨B9, 3, none⟩ = some (.string r.t) := fun V hV => by
        obtain ⟨a0, a1, a2⟩ := fd_cells ((hV.block _ (Array.getElem?_eq_some_iff.1 hblk7).1).trans hblk7)
        obtain ⟨b0, b1, b2, b3⟩ := rw_cells ((hV.block _ (Array.getElem?_eq_some_iff.1 hblk9).1).trans hblk9)
        exact ⟨a0, a1, a2, b0, b1, b2, b3⟩
      have hgr7 : Gr (w.heap.size + 1) wa W7 := (Gr.of_below Hb5.out).trans ((by rw [HB1.out]; exact hgr6 : Gr (w.heap.size + 1) W5 w6).trans (Gr.of_below hb7))
      have hg7 : RawL.Gen W7 (w.heap.size + 1) A rs.length c (nextA rs (inpV rs F k).2) := by rw [HB1.out]; exact hg6.below hb7
      have hskip : ¬ (f.kind = 1 ∧ 0 < pick r.k 4) → InI w A rs c F (k + 1) v W7 := fun h => HV.out.skip hlt (by rw [HFk.out, HRr.out]; exact h) hg7 hgr7
      have hp := fun V => picked_any r.k 4 V o0 (by decide) (by decide)
      have hval := fun V => value_any f.ty r.k r.x r.y r.t V o0 o1 o3
      have hpb := pick_bd r.k 4 (by decide)
      obtain ⟨p, hpk⟩ : ∃ p, pick r.k 4 = p := ⟨_, rfl⟩
      rw [hpk] at hskip hpb
      simp only [hpk] at hp
      have hown : ∀ V : World, Below W7.heap.size W7 V → V.ownsRow (w.heap.size + 2) 37 7 v (inpV rs F k).1.length (fcR (inpV rs F k).1) := fun V hV => own_below (HV.out.own.kept hgr7 (.inr fun e => by have := (HV.out.own.lt _ e).1; omega)) hV
      have hsz : ∀ (V : World) (o : Obj), Below W7.heap.size W7 V → w.heap.size + 2 ≤ (V.alloc o).heap.size := fun V o hV => by
        have h1 := HV.out.size
        have h2 := hgr7.size
        have h3 := hV.size
        simp; omega
      have happ : ∀ (w8 w9 : World) (o : Obj), Below W7.heap.size W7 w8 → (w8.alloc o).grownBy w9 v.ownBlock → w9.cell? ⟨B5, 0, none⟩ = some (.string f.nm) ∧ w9.cell? ⟨B5, 1, none⟩ = some (.int .i64 f.kind) ∧ w9.cell? ⟨B5, 2, none⟩ = some (.int .i64 f.ty) ∧ w9.cell? ⟨B9, 0, none⟩ = some (.int .i64 r.k) ∧ w9.cell? ⟨B9, 1, none⟩ = some (.int .i64 r.x) ∧ w9.cell? ⟨B9, 2, none⟩ = some (.int .i64 r.y) ∧ w9.cell? ⟨B9, 3, none⟩ = some (.string r.t) := fun w8 w9 o h1 h2 => by
        have hk1 : ∀ b x, wa.heap.size ≤ b → W7.heap[b]? = some x → w9.heap[b]? = some x := fun b x hb hx => by
          have h5 : w8.heap[b]? = _ := (h1.block _ (Array.getElem?_eq_some_iff.1 hx).1).trans hx
          exact ((h2.block b (by rw [World.size_alloc]; have := (Array.getElem?_eq_some_iff.1 h5).1; omega) (fun e => by have := (HV.out.own.lt b e.symm).2; omega)).trans ((b_new w8 o).block b (Array.getElem?_eq_some_iff.1 h5).1)).trans h5
        have e5 := HB5.out
        have e9 := Hb5.out.size
        have e10 := hgr6.size
        obtain ⟨a0, a1, a2⟩ := fd_cells (hk1 B5 _ (by omega) hblk7)
        obtain ⟨b0, b1, b2, b3⟩ := rw_cells (hk1 B9 _ (by omega) hblk9)
        exact ⟨a0, a1, a2, b0, b1, b2, b3⟩
      have HOwn := Lib.hid hown
      have HSz := Lib.hid hsz
      have HApp := Lib.hid happ
      have HSkip := Lib.hid hskip
      have HP := Lib.hid hp
      have HVal := Lib.hid hval
      have HPk := Lib.hid hpk
      have HCell := Lib.hid hcell
      have HG7 := Lib.hid (And.intro hg7 hgr7)
      have HW7 := Lib.hid hW7
      have HB9 := Lib.hid hB9
      have hbl := Below.refl W7.heap.size W7
      obtain ⟨x0, x1, x2, x3, x4, x5, x6⟩ := hcell W7 hbl
      clear hown hsz happ hg6 hgr6 hb7 hblk9 hblk7 hskip hp hval hpk hcell hgr7 hg7 hW7 hB9
      go_upto_region 7 with fail
      rw [HW7.out, HB9.out]
      by_cases h1 : f.kind = 1
      · have t1 : (f.kind == 1) = true := by rw [h1]; rfl
        by_cases h2 : 0 < p
        · have HK1 := Lib.hid h1
          clear h1
          go_wp2_with (go_at_call 10; refine (HP.out _).mono ?_; rintro e w8 ⟨rfl, rfl⟩)
          have hnl : (inpV rs F k).1.length ≤ 1000000 := by have := (inpV_le rs F k).2; omega
          obtain ⟨nL, hnL⟩ : ∃ n, (inpV rs F k).1.length = n := ⟨_, rfl⟩
          obtain ⟨LL, hLL⟩ : ∃ l, fcR (inpV rs F k).1 = l := ⟨_, rfl⟩
          rw [hnL] at hnl
          rw [hnL, hLL] at HOwn
          have HNL := Lib.hid hnL
          have HLL := Lib.hid hLL
          clear hnL hLL
          generalize hk9 : vK f.ty = ek at HVal
          generalize hn9 : vN f.ty r.k r.x = en at HVal
          generalize ht9 : vS f.ty r.t = et at HVal
          have HE := Lib.hid (And.intro hk9 (And.intro hn9 ht9))
          clear hk9 hn9 ht9
          go_region_held3 (fun V => V.cell? ⟨B5, 0, none⟩ = some (.string f.nm) ∧ V.cell? ⟨B5, 1, none⟩ = some (.int .i64 f.kind) ∧ V.cell? ⟨B5, 2, none⟩ = some (.int .i64 f.ty) ∧ V.cell? ⟨B9, 0, none⟩ = some (.int .i64 r.k) ∧ V.cell? ⟨B9, 1, none⟩ = some (.int .i64 r.x) ∧ V.cell? ⟨B9, 2, none⟩ = some (.int .i64 r.y) ∧ V.cell? ⟨B9, 3, none⟩ = some (.string r.t)) (first | (with_reducible exact hS7) | (with_reducible exact HCell.out _ hbl) | (with_reducible exact HCell.out _ (b_drew hbl)) | (with_reducible exact HCell.out _ (b_more hbl _)) | (with_reducible exact HCell.out _ (b_more (b_drew hbl) _)) | (with_reducible exact HCell.out _ (b_drew (b_more hbl _))))
            (first | (refine step_append_lies _ (by rfl) _ _ _ (by rfl) (w.heap.size + 2) 37 i0 _ 7 80 Try.underlying26 hi hz0 hz1 hz2 rfl (by omega) v nL LL (by rfl) (own8.alloc _) ⟨w8.heap.size, 0, none⟩ 1 1 [.string f.nm, .int .i64 0, .int .i64 0, .string ⟨#[]⟩, .int .i64 ek, .int .i64 en, .string et] (by rfl) (by rfl) (World.news_of_block (cs := #[.string f.nm, .int .i64 0, .int .i64 0, .string ⟨#[]⟩, .int .i64 ek, .int .i64 en, .string et]) (t := 37) (fr := (0, 0)) (World.alloc_heap_new w8 _)) (by simp [Value.oneCell']) (by omega) (by unfold maxLen; omega) (by omega) hz9 (w8.heap.size + 1) (by simp) ?_; intro gg cap w9 hown9 hgrow9 hat9 hlt9; have hS7 := HApp.out w8 w9 _ hbl hgrow9; have H9 := Lib.hid (And.intro hown9 hgrow9); clear hown9 hgrow9 hat9 hlt9) | (go_at_call 18; (with_reducible refine (HVal.out _).mono ?_); rintro e w8 ⟨rfl, hb8⟩; have hbl : Below W7.heap.size W7 w8 := (by first | exact hbl.trans (hb8.mono hbl.size) | exact (b_drew hbl).trans (hb8.mono hbl.size)); obtain ⟨x0, x1, x2, x3, x4, x5, x6⟩ := HCell.out w8 hbl; have own8 := HOwn.out w8 hbl; have hz9 := HSz.out w8 (.cells #[.string f.nm, .int .i64 0, .int .i64 0, .string ⟨#[]⟩, .int .i64 ek, .int .i64 en, .string et] 37) hbl; have HB8 := Lib.hid hbl; clear hb8) | (fail))
          all_goals
            have hN := HV.out.step (V := w8) hlt (by rw [HFk.out]; exact HK1.out) (by rw [HRr.out, HPk.out]; exact h2) (HG7.out.1.below HB8.out) (HG7.out.2.trans (Gr.of_below HB8.out)) (by rw [HNL.out, HLL.out, HFk.out, HRr.out]; unfold fcC fctOf; rw [HE.out.1, HE.out.2.1, HE.out.2.2]; exact H9.out.1) H9.out.2
            rw [HNL.out] at hN
            have HN := Lib.hid hN
            clear hN
            go_wp2_with fail
            go_roundw
            case rel => exact ⟨k + 1, _, rfl, by go_num, HN.out⟩
            case measure => simp [intOf]; omega
        · have HN := Lib.hid (HSkip.out fun h => h2 h.2)
          clear h1
          go_wp2_with (go_at_call 10; refine (HP.out _).mono ?_; rintro e w8 ⟨rfl, rfl⟩)
          go_roundw
          case rel => exact ⟨k + 1, v, rfl, by go_num, HN.out⟩
          case measure => simp [intOf]; omega
      · have t1 : (f.kind == 1) = false := beq_eq_false_iff_ne.2 h1
        have HN := Lib.hid (HSkip.out fun h => h1 h.1)
        clear h1
        go_wp2_with fail
        go_roundw
        case rel => exact ⟨k + 1, v, rfl, by go_num, HN.out⟩
        case measure => simp [intOf]; omega
    · have ek : k = F.length := by omega
      subst ek
      have hown := own_fcs hV.own rfl
      obtain ⟨OA, oc, rfl, hfcs⟩ := hown
      have HO := Lib.hid (show InpOut rs F w (.returned (.slice OA (inpV rs F F.length).1.length oc)) wa from ⟨OA, oc, rfl, hfcs, NmR.own_base hV.own (by omega), hV.below⟩)
      clear hV hfcs
      go_wp2_with fail
      go_ret
      exact HO.out
end Go.Proofs.Ytdlfhldboagbeaa.InpG
