/- What the laws of chapter 7 want besides: rows of facts that are written, formulas over made rows, the contract of eval.Of where all is right. -/
import Derived.Test.YtehkebncdahmcaaDoorEvFacts
import Derived.Test.YtehkebncdahmcaaDoorEvEval
import Derived.Test.YtehkebncdahmcaaDoorEvProps
import Derived.Lib.SliceRun
import Derived.Lib.Walk
namespace Go.Proofs.YtehkebncdahmcaaDoor.EvK
open Go.RowKit
open ValM LexM NumM ExM NmM TyM EvM EvP Kit ExL ExP ExV ExN RawV Within RawL GenL Gen GenT NmG EvF EvG EvE
set_option linter.unusedVariables false

/-! ### Rows of facts -/
def RowF (w : World) (g : Nat) (vs : List Fc) (rest : List Value) : Prop := w.heap[g]? = some (.cells (fcL vs ++ rest).toArray 41 (0, 0))
theorem RowF.lt {w : World} {g : Nat} {vs : List Fc} {rest : List Value} (h : RowF w g vs rest) : g < w.heap.size := (Array.getElem?_eq_some_iff.1 h).1
theorem RowF.below {w w' : World} {g : Nat} {vs : List Fc} {rest : List Value} (h : RowF w g vs rest) (hb : Below w.heap.size w w') : RowF w' g vs rest := (hb.block g h.lt).trans h
theorem RowF.fcs {w : World} {g : Nat} {vs : List Fc} {rest : List Value} (h : RowF w g vs rest) : Fcs w (some ⟨g, 0, none⟩) vs := fcs_of h
theorem RowF.frozen {w : World} {g : Nat} {vs : List Fc} {rest : List Value} (h : RowF w g vs rest) (o : Nat) : w.frozen? ⟨g, o, none⟩ = false := frozen_of_row w g o _ _ h
theorem RowF.far {w : World} {g b : Nat} {vs : List Fc} {rest : List Value} (h : RowF w g vs rest) (hne : g ≠ b) (o : Nat) (v : Value) : RowF (w.setCell ⟨b, o, none⟩ v) g vs rest := (Below.heap_setCell w ⟨b, o, none⟩ v g hne).trans h
theorem RowF.at {w : World} {g : Nat} {vs : List Fc} {rest : List Value} (h : RowF w g vs rest) (i : Nat) (hi : i < vs.length) (j : Nat) (hj : j < 7) : w.cell? ⟨g, i * 7 + j, none⟩ = (fcC vs[i])[j]? := by
  unfold RowF at h
  simp only [World.cell?, h, Option.isSome_none, Bool.false_eq_true, if_false]
  rw [List.getElem?_toArray, List.getElem?_append_left (by rw [fcL_len]; omega), fcL_at vs i j hi hj]
theorem RowF.cells {w : World} {g : Nat} {vs : List Fc} {rest : List Value} (h : RowF w g vs rest) (i : Nat) (hi : i < vs.length) :
    w.cell? ⟨g, i * 7, none⟩ = some (.string vs[i].nm) ∧ w.cell? ⟨g, i * 7 + 1, none⟩ = some (.int .i64 vs[i].kk) ∧ w.cell? ⟨g, i * 7 + 2, none⟩ = some (.int .i64 vs[i].kn) ∧ w.cell? ⟨g, i * 7 + 3, none⟩ = some (.string vs[i].ks) ∧ w.cell? ⟨g, i * 7 + 4, none⟩ = some (.int .i64 vs[i].v.k) ∧ w.cell? ⟨g, i * 7 + 5, none⟩ = some (.int .i64 vs[i].v.n) ∧ w.cell? ⟨g, i * 7 + 6, none⟩ = some (.string vs[i].v.s) :=
  ⟨h.at i hi 0 (by omega), h.at i hi 1 (by omega), h.at i hi 2 (by omega), h.at i hi 3 (by omega), h.at i hi 4 (by omega), h.at i hi 5 (by omega), h.at i hi 6 (by omega)⟩
theorem fcL_set3 : ∀ (vs : List Fc) (rest : List Value) (k : Nat) (h : k < vs.length) (v : Vl), (((fcL vs ++ rest).set (k * 7 + 4) (.int .i64 v.k)).set (k * 7 + 5) (.int .i64 v.n)).set (k * 7 + 6) (.string v.s) = fcL (vs.set k { vs[k] with v := v }) ++ rest
  | [], _, k, h, _ => absurd h (by simp)
  | x :: l, rest, 0, _, v => rfl
  | x :: l, rest, k + 1, h, v => by
    have := fcL_set3 l rest k (by simpa using h) v
    rw [show (k + 1) * 7 + 4 = k * 7 + 4 + 1 + 1 + 1 + 1 + 1 + 1 + 1 by omega, show (k + 1) * 7 + 5 = k * 7 + 5 + 1 + 1 + 1 + 1 + 1 + 1 + 1 by omega, show (k + 1) * 7 + 6 = k * 7 + 6 + 1 + 1 + 1 + 1 + 1 + 1 + 1 by omega]
    simp only [fcL, fcC, List.cons_append, List.nil_append, List.set_cons_succ, List.getElem_cons_succ]
    rw [this]
theorem fcL_set7 : ∀ (vs : List Fc) (rest : List Value) (k : Nat) (_ : k < vs.length) (f : Fc), (((((((fcL vs ++ rest).set (k * 7) (.string f.nm)).set (k * 7 + 1) (.int .i64 f.kk)).set (k * 7 + 2) (.int .i64 f.kn)).set (k * 7 + 3) (.string f.ks)).set (k * 7 + 4) (.int .i64 f.v.k)).set (k * 7 + 5) (.int .i64 f.v.n)).set (k * 7 + 6) (.string f.v.s) = fcL (vs.set k f) ++ rest
  | [], _, k, h, _ => absurd h (by simp)
  | x :: l, rest, 0, _, v => rfl
  | x :: l, rest, k + 1, h, v => by
    have := fcL_set7 l rest k (by simpa using h) v
    rw [show (k + 1) * 7 + 4 = k * 7 + 4 + 1 + 1 + 1 + 1 + 1 + 1 + 1 by omega, show (k + 1) * 7 + 5 = k * 7 + 5 + 1 + 1 + 1 + 1 + 1 + 1 + 1 by omega, show (k + 1) * 7 + 6 = k * 7 + 6 + 1 + 1 + 1 + 1 + 1 + 1 + 1 by omega, show (k + 1) * 7 + 1 = k * 7 + 1 + 1 + 1 + 1 + 1 + 1 + 1 + 1 by omega, show (k + 1) * 7 + 2 = k * 7 + 2 + 1 + 1 + 1 + 1 + 1 + 1 + 1 by omega, show (k + 1) * 7 + 3 = k * 7 + 3 + 1 + 1 + 1 + 1 + 1 + 1 + 1 by omega, show (k + 1) * 7 = k * 7 + 1 + 1 + 1 + 1 + 1 + 1 + 1 by omega]
    simp only [fcL, fcC, List.cons_append, List.nil_append, List.set_cons_succ]
    rw [this]
theorem RowF.set3 {w : World} {g : Nat} {vs : List Fc} {rest : List Value} (h : RowF w g vs rest) (k : Nat) (hk : k < vs.length) (v : Vl) :
    RowF (((w.setCell ⟨g, k * 7 + 4, none⟩ (.int .i64 v.k)).setCell ⟨g, k * 7 + 5, none⟩ (.int .i64 v.n)).setCell ⟨g, k * 7 + 6, none⟩ (.string v.s)) g (vs.set k { vs[k] with v := v }) rest := by
  have e1 := heap_setCell_same w g (k * 7 + 4) _ _ (.int .i64 v.k) h
  have e2 := heap_setCell_same _ g (k * 7 + 5) _ _ (.int .i64 v.n) e1
  have e3 := heap_setCell_same _ g (k * 7 + 6) _ _ (.string v.s) e2
  unfold RowF
  rw [e3, ← fcL_set3 vs rest k hk v]
  simp
theorem RowF.set7 {w : World} {g : Nat} {vs : List Fc} {rest : List Value} (h : RowF w g vs rest) (k : Nat) (hk : k < vs.length) (f : Fc) :
    RowF (((((((w.setCell ⟨g, k * 7, none⟩ (.string f.nm)).setCell ⟨g, k * 7 + 1, none⟩ (.int .i64 f.kk)).setCell ⟨g, k * 7 + 2, none⟩ (.int .i64 f.kn)).setCell ⟨g, k * 7 + 3, none⟩ (.string f.ks)).setCell ⟨g, k * 7 + 4, none⟩ (.int .i64 f.v.k)).setCell ⟨g, k * 7 + 5, none⟩ (.int .i64 f.v.n)).setCell ⟨g, k * 7 + 6, none⟩ (.string f.v.s)) g (vs.set k f) rest := by
  have e1 := heap_setCell_same w g (k * 7) _ _ (.string f.nm) h
  have e2 := heap_setCell_same _ g (k * 7 + 1) _ _ (.int .i64 f.kk) e1
  have e3 := heap_setCell_same _ g (k * 7 + 2) _ _ (.int .i64 f.kn) e2
  have e4 := heap_setCell_same _ g (k * 7 + 3) _ _ (.string f.ks) e3
  have e5 := heap_setCell_same _ g (k * 7 + 4) _ _ (.int .i64 f.v.k) e4
  have e6 := heap_setCell_same _ g (k * 7 + 5) _ _ (.int .i64 f.v.n) e5
  have e7 := heap_setCell_same _ g (k * 7 + 6) _ _ (.string f.v.s) e6
  unfold RowF
  rw [e7, ← fcL_set7 vs rest k hk f]
  simp
theorem b_set7 {B : Nat} {a w : World} (h : Below B a w) (b : Nat) (hb : B ≤ b) (o0 o1 o2 o3 o4 o5 o6 : Nat) (v0 v1 v2 v3 v4 v5 v6 : Value) :
    Below B a (((((((w.setCell ⟨b, o0, none⟩ v0).setCell ⟨b, o1, none⟩ v1).setCell ⟨b, o2, none⟩ v2).setCell ⟨b, o3, none⟩ v3).setCell ⟨b, o4, none⟩ v4).setCell ⟨b, o5, none⟩ v5).setCell ⟨b, o6, none⟩ v6) :=
  ((((((h.setCell (p := ⟨b, o0, none⟩) hb _).setCell (p := ⟨b, o1, none⟩) hb _).setCell (p := ⟨b, o2, none⟩) hb _).setCell (p := ⟨b, o3, none⟩) hb _).setCell (p := ⟨b, o4, none⟩) hb _).setCell (p := ⟨b, o5, none⟩) hb _).setCell (p := ⟨b, o6, none⟩) hb _
theorem b_set3' {B : Nat} {a w : World} (h : Below B a w) (b : Nat) (hb : B ≤ b) (o0 o1 o2 : Nat) (v0 v1 v2 : Value) : Below B a (((w.setCell ⟨b, o0, none⟩ v0).setCell ⟨b, o1, none⟩ v1).setCell ⟨b, o2, none⟩ v2) :=
  ((h.setCell (p := ⟨b, o0, none⟩) hb _).setCell (p := ⟨b, o1, none⟩) hb _).setCell (p := ⟨b, o2, none⟩) hb _
/-- A written row of one fact. -/
theorem row_one (w : World) (f : Fc) : RowF (w.alloc (.cells #[.string f.nm, .int .i64 f.kk, .int .i64 f.kn, .string f.ks, .int .i64 f.v.k, .int .i64 f.v.n, .string f.v.s] 41)) w.heap.size [f] [] := World.alloc_heap_new w _

/-! ### Facts that are made -/
def Fits5 (vs : List Fc) : Prop := vs.length = 5 ∧ ∀ (i : Nat) (h1 : i < vs.length) (h2 : i < someF.length), FOk someF[i] vs[i]
theorem some_vK : ∀ (i : Nat) (h : i < someF.length), vK someF[i].ty = someF[i].ty ∧ 1 ≤ someF[i].ty ∧ someF[i].ty ≤ 3 := by decide
theorem Fits5.ok {vs : List Fc} (h : Fits5 vs) : ∀ f ∈ fcs vs, f.2.ok := fun f hf => by
  obtain ⟨i, hi, rfl⟩ := List.getElem_of_mem hf
  have hi' : i < vs.length := by rw [← fcs_len]; exact hi
  rw [fcs_at vs i hi']
  exact known_ok (h.2 i hi' (by rw [show someF.length = 5 from rfl, ← h.1]; exact hi')).2.2.2.2.2
theorem Fits5.names {vs : List Fc} (h : Fits5 vs) : ∀ f ∈ vs, f.nm.size ≤ maxLen := fun f hf => by
  obtain ⟨i, hi, rfl⟩ := List.getElem_of_mem hf
  have h2 : i < someF.length := by rw [show someF.length = 5 from rfl, ← h.1]; exact hi
  rw [(h.2 i hi h2).1]
  exact someF_sz _ (List.getElem_mem h2)
theorem Fits5.set {us vs : List Fc} (hu : Fits5 us) (hv : Fits5 vs) (k : Nat) (hk : k < vs.length) : Fits5 (us.set k vs[k]) := by
  refine ⟨by rw [List.length_set, hu.1], fun i h1 h2 => ?_⟩
  rw [List.length_set] at h1
  rw [List.getElem_set]
  by_cases e : k = i
  · subst e; rw [if_pos rfl]; exact hv.2 k hk h2
  · rw [if_neg e]; exact hu.2 i h1 h2
theorem Fits5.same_names {us vs : List Fc} (hu : Fits5 us) (hv : Fits5 vs) (i : Nat) (h1 : i < us.length) (h2 : i < vs.length) : us[i].nm = vs[i].nm := by
  have h3 : i < someF.length := by rw [show someF.length = 5 from rfl, ← hu.1]; exact h1
  exact (hu.2 i h1 h3).1.trans (hv.2 i h2 h3).1.symm
theorem factV_same {fs gs : List (ByteArray × Vl)} {s : ByteArray} (hl : fs.length = gs.length) (h : ∀ (i : Nat) (h1 : i < fs.length) (h2 : i < gs.length), fs[i].1 = gs[i].1 ∧ (fs[i].1 = s → fs[i].2 = gs[i].2)) : factV fs s = factV gs s := by
  induction fs generalizing gs with
  | nil =>
    match gs, hl with
    | [], _ => rfl
  | cons f l ih =>
    match gs, hl with
    | g :: m, hl =>
      have h0 := h 0 (by simp) (by simp)
      simp only [List.getElem_cons_zero] at h0
      rw [factV, factV]
      by_cases e : f.1 = s
      · rw [if_pos e, if_pos (by rw [← h0.1]; exact e), h0.2 e]
      · rw [if_neg e, if_neg (by rw [← h0.1]; exact e)]
        exact ih (by simpa using hl) fun i h1 h2 => h (i + 1) (by simpa using h1) (by simpa using h2)
/-- What is the same where it is asked for. -/
theorem ev_same {us vs : List Fc} (hu : Fits5 us) (hv : Fits5 vs) (x : Ex) (h : ∀ (i : Nat) (h1 : i < us.length) (h2 : i < vs.length), hasB (Ex.refs x) vs[i].nm = true → us[i] = vs[i]) : Ex.ev (fcs us) x = Ex.ev (fcs vs) x :=
  ev_local _ _ x fun s hs => factV_same (by rw [fcs_len, fcs_len, hu.1, hv.1]) fun i h1 h2 => by
    rw [fcs_len] at h1 h2
    rw [fcs_at us i h1, fcs_at vs i h2]
    refine ⟨hu.same_names hv i h1 h2, fun e => ?_⟩
    simp only at e ⊢
    rw [h i h1 h2 (by rw [hasB_true, ← hu.same_names hv i h1 h2, e]; exact hs)]
theorem factV_gro {fs gs : List (ByteArray × Vl)} {s : ByteArray} (hl : fs.length = gs.length) (h : ∀ (i : Nat) (h1 : i < fs.length) (h2 : i < gs.length), fs[i].1 = gs[i].1 ∧ Gro fs[i].2 gs[i].2) : Gro (factV fs s) (factV gs s) := by
  induction fs generalizing gs with
  | nil =>
    match gs, hl with
    | [], _ => exact gro_refl _
  | cons f l ih =>
    match gs, hl with
    | g :: m, hl =>
      have h0 := h 0 (by simp) (by simp)
      simp only [List.getElem_cons_zero] at h0
      rw [factV, factV]
      by_cases e : f.1 = s
      · rw [if_pos e, if_pos (by rw [← h0.1]; exact e)]; exact h0.2
      · rw [if_neg e, if_neg (by rw [← h0.1]; exact e)]
        exact ih (by simpa using hl) fun i h1 h2 => h (i + 1) (by simpa using h1) (by simpa using h2)

/-! ### eval.Of where all is right -/
theorem of_good (x : Ex) (l : List Fc) (FA : Option Addr) (fc : Nat) (d : Nd) (A : Option Addr) (n c : Nat) (w : World) (hl : l.length ≤ 1000000000000) (hnm : ∀ f ∈ l, f.nm.size ≤ maxLen) (his : Is w x d A n) (hf : Fcs w FA l) (hT : Tab w) (hck : x.checkE = 0) (hok : ∀ f ∈ fcs l, f.2.ok) :
    Calls Tryd.prog 5 #[.agg #[.int .i64 d.op, .int .i64 d.k, .int .i64 d.n, .string d.s, .string d.nm, .slice A n c], .slice FA l.length fc] w fun e w' => e = .returned (.tuple #[.agg #[.int .i64 (Ex.ev (fcs l) x).k, .int .i64 (Ex.ev (fcs l) x).n, .string (Ex.ev (fcs l) x).s], .int .i64 0]) ∧ Below w.heap.size w w' := by
  have := of_any x l FA fc d A n c w hl hnm his hf hT
  obtain ⟨h1, h2⟩ := ofE_ok hck hok
  rw [h1, h2] at this
  exact this
/-- A reference, evaluated. -/
theorem ev_ref (fs : List (ByteArray × Vl)) (s : ByteArray) : Ex.ev fs (.mk ⟨2, 0, 0, ⟨#[]⟩, s⟩ []) = factV fs s := by
  rw [ev_mk]; unfold evN; rw [if_neg (show ¬ (2 : Int) = 1 by decide), if_pos rfl]
theorem factV_one (s : ByteArray) (v : Vl) : factV [(s, v)] s = v := by rw [factV, if_pos rfl]
/-- The field n, by one fact. -/
theorem one_any (v : Vl) (hv : v.ok) (w : World) (hT : Tab w) :
    Calls Tryd.prog 5 #[.agg #[.int .i64 2, .int .i64 0, .int .i64 0, .string ⟨#[]⟩, .string ⟨#[110]⟩, .slice none 0 0], .slice (some ⟨w.heap.size, 0, none⟩) 1 1] (w.alloc (.cells #[.string ⟨#[110]⟩, .int .i64 0, .int .i64 0, .string ⟨#[]⟩, .int .i64 v.k, .int .i64 v.n, .string v.s] 41)) fun e w' => e = .returned (.tuple #[.agg #[.int .i64 v.k, .int .i64 v.n, .string v.s], .int .i64 0]) ∧ Below w.heap.size w w' := by
  have hr := row_one w ⟨nN, 0, 0, ⟨#[]⟩, v⟩
  have := of_good refN [⟨nN, 0, 0, ⟨#[]⟩, v⟩] (some ⟨w.heap.size, 0, none⟩) 1 ⟨2, 0, 0, ⟨#[]⟩, nN⟩ none 0 0 _ (by simp) (fun f hf => by simp at hf; subst hf; exact (by decide : nN.size ≤ maxLen)) (refN_is _) hr.fcs (hT.alloc _) refN_check (fun f hf => by simp [fcs] at hf; subst hf; exact hv)
  rw [show Ex.ev (fcs [⟨nN, 0, 0, ⟨#[]⟩, v⟩]) refN = v from (ev_ref _ nN).trans (factV_one nN v)] at this
  exact this.mono fun e w' h => ⟨h.1, b_then h.2⟩
theorem one_at (k n : Int) (s : ByteArray) (hv : (⟨k, n, s⟩ : Vl).ok) (V : World) (g : Nat) (hr : RowF V g [⟨nN, 0, 0, ⟨#[]⟩, ⟨k, n, s⟩⟩] []) (hT : Tab V) :
    Calls Tryd.prog 5 #[.agg #[.int .i64 2, .int .i64 0, .int .i64 0, .string ⟨#[]⟩, .string ⟨#[110]⟩, .slice none 0 0], .slice (some ⟨g, 0, none⟩) 1 1] V fun e w' => e = .returned (.tuple #[.agg #[.int .i64 k, .int .i64 n, .string s], .int .i64 0]) ∧ Below V.heap.size V w' := by
  have := of_good refN [⟨nN, 0, 0, ⟨#[]⟩, ⟨k, n, s⟩⟩] (some ⟨g, 0, none⟩) 1 ⟨2, 0, 0, ⟨#[]⟩, nN⟩ none 0 0 V (by simp) (fun f hf => by simp at hf; subst hf; exact (by decide : nN.size ≤ maxLen)) (refN_is _) hr.fcs hT refN_check (fun f hf => by simp [fcs] at hf; subst hf; exact hv)
  rw [show Ex.ev (fcs [⟨nN, 0, 0, ⟨#[]⟩, ⟨k, n, s⟩⟩]) refN = ⟨k, n, s⟩ from (ev_ref _ nN).trans (factV_one nN _)] at this
  exact this
theorem row_new (w : World) (nm : ByteArray) (k n : Int) (s : ByteArray) : RowF (w.alloc (.cells #[.string nm, .int .i64 0, .int .i64 0, .string ⟨#[]⟩, .int .i64 k, .int .i64 n, .string s] 41)) w.heap.size [⟨nm, 0, 0, ⟨#[]⟩, ⟨k, n, s⟩⟩] [] := World.alloc_heap_new w _
end Go.Proofs.YtehkebncdahmcaaDoor.EvK
