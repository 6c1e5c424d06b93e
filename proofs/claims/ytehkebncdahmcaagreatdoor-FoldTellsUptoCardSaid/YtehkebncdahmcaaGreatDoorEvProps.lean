/- Plain mathematics of chapter 7: what holds of the values of formulas. No program is named here. -/
import Derived.Test.YtehkebncdahmcaaGreatDoorEvMath
namespace Go.Proofs.YtehkebncdahmcaaGreatDoor.EvP
open Go.Lib
open NumM ValM ExM NmM TyM StrM EvM

theorem gd_len {α β : Type} {l : List α} {m : List β} (h : l.length = m.length) (i : Nat) : i < l.length ↔ i < m.length := by rw [h]

/-! ### A formula in the place of a field -/
theorem ev_put (gs : List (ByteArray × Vl)) (n : ByteArray) (y : Ex) : ∀ x : Ex, Ex.ev gs (Ex.put n y x) = Ex.ev ((n, Ex.ev gs y) :: gs) x := by
  refine Ex.ind fun d l ih => ?_
  rw [put_mk]
  by_cases h : d.op = 2 ∧ d.nm = n
  · rw [if_pos h, ev_mk]
    unfold evN
    rw [if_neg (by omega), if_pos h.1, factV, if_pos h.2.symm]
  · rw [if_neg h, ev_mk, ev_mk]
    have e : evL gs (l.map (Ex.put n y)) = evL ((n, Ex.ev gs y) :: gs) l := by
      rw [evL_map, evL_map, List.map_map]
      exact List.map_congr_left fun x hx => ih x hx
    rw [e]
    unfold evN
    by_cases h2 : d.op = 2
    · rw [if_neg (by omega), if_pos h2, if_neg (by omega), if_pos h2, factV, if_neg (fun g => h ⟨h2, g.symm⟩)]
    · simp only [if_neg h2]

/-! ### What is not asked for -/
theorem ev_local (fs gs : List (ByteArray × Vl)) : ∀ x : Ex, (∀ s ∈ Ex.refs x, factV fs s = factV gs s) → Ex.ev fs x = Ex.ev gs x := by
  refine Ex.ind fun d l ih => ?_
  intro h
  have e : evL fs l = evL gs l := by
    rw [evL_map, evL_map]
    refine List.map_congr_left fun x hx => ih x hx fun s hs => h s ?_
    rw [refs_mk, List.mem_append]
    exact .inr (mem_refsL hx hs)
  rw [ev_mk, ev_mk, e]
  unfold evN
  by_cases h1 : d.op = 1
  · rw [if_pos h1, if_pos h1]
  rw [if_neg h1, if_neg h1]
  by_cases h2 : d.op = 2
  · rw [if_pos h2, if_pos h2]
    exact h _ (by rw [refs_mk_pos d l h2]; simp)
  · rw [if_neg h2, if_neg h2]

/-! ### What is known stays so -/
/-- w is what is known by then, v what is known later. -/
def Gro (v w : Vl) : Prop := w.k = 4 ∨ v = w ∨ (v.k = 5 ∧ w.k = 5)
theorem gro_refl (v : Vl) : Gro v v := .inr (.inl rfl)
theorem gro_cond {v w : Vl} (h : Gro v w) : Gro (condV v) (condV w) := by
  rcases h with h | h | ⟨h1, h2⟩
  · left; unfold condV; rw [if_neg (by omega)]; exact h
  · right; left; rw [h]
  · right; right; unfold condV; rw [if_neg (by omega), if_neg (by omega)]; exact ⟨h1, h2⟩
/-- Pair by pair. -/
def GroL (l m : List Vl) : Prop := l.length = m.length ∧ ∀ i, i < l.length → Gro (l.getD i zeroV) (m.getD i zeroV)
theorem groL_cons {v w : Vl} {l m : List Vl} : GroL (v :: l) (w :: m) ↔ Gro v w ∧ GroL l m := by
  constructor
  · intro ⟨h1, h2⟩
    refine ⟨by simpa using h2 0 (by simp), by simpa using h1, fun i hi => ?_⟩
    have := h2 (i + 1) (by simpa using hi)
    simpa using this
  · intro ⟨h, h1, h2⟩
    refine ⟨by simp [h1], fun i hi => ?_⟩
    match i, hi with
    | 0, _ => simpa using h
    | i + 1, hi => simpa using h2 i (by simpa using hi)
theorem gro_fault {l m : List Vl} (h : GroL l m) {w : Vl} (hw : firstK 5 m = some w) : ∃ v, firstK 5 l = some v ∧ v.k = 5 := by
  induction m generalizing l with
  | nil => cases hw
  | cons y m ih =>
    match l, h with
    | [], h => exact absurd h.1 (by simp)
    | x :: l, h =>
      obtain ⟨g, h⟩ := groL_cons.1 h
      rw [firstK] at hw ⊢
      by_cases hx : x.k = 5
      · exact ⟨x, by rw [if_pos hx], hx⟩
      · rw [if_neg hx]
        by_cases hy : y.k = 5
        · rcases g with g | g | ⟨g, _⟩
          · omega
          · rw [g] at hx; exact absurd hy hx
          · exact absurd g hx
        · rw [if_neg hy] at hw
          exact ih h hw
theorem gro_same {l m : List Vl} (h : GroL l m) (h4 : firstK 4 m = none) (h5 : firstK 5 m = none) : l = m := by
  induction m generalizing l with
  | nil =>
    match l, h with
    | [], _ => rfl
    | x :: l, h => exact absurd h.1 (by simp)
  | cons y m ih =>
    match l, h with
    | [], h => exact absurd h.1 (by simp)
    | x :: l, h =>
      obtain ⟨g, h⟩ := groL_cons.1 h
      rw [firstK_none] at h4 h5
      have e : x = y := by
        rcases g with g | g | ⟨_, g⟩
        · exact absurd g (h4 y (by simp))
        · exact g
        · exact absurd g (h5 y (by simp))
      rw [e, ih h (firstK_none.2 fun v hv => h4 v (by simp [hv])) (firstK_none.2 fun v hv => h5 v (by simp [hv]))]
theorem gro_op (op : Int) {l m : List Vl} (h : GroL l m) : Gro (opV op l) (opV op m) := by
  rcases h5 : firstK 5 m with _ | w
  · rcases h4 : firstK 4 m with _ | w
    · rw [gro_same h h4 h5]; exact gro_refl _
    · left
      unfold opV
      rw [h5, h4]
      exact (firstK_some h4).2
  · right; right
    obtain ⟨v, hv, hk⟩ := gro_fault h h5
    unfold opV
    rw [h5, hv]
    exact ⟨hk, (firstK_some h5).2⟩
theorem gro_get {l m : List Vl} (h : GroL l m) (i : Nat) : Gro (l.getD i zeroV) (m.getD i zeroV) := by
  by_cases hi : i < l.length
  · exact h.2 i hi
  · have hm : ¬ i < m.length := by rw [← h.1]; exact hi
    rw [List.getD_eq_getElem?_getD, List.getD_eq_getElem?_getD, List.getElem?_eq_none (by omega), List.getElem?_eq_none (by omega)]
    exact gro_refl _
theorem cond_kind (v : Vl) : (condV v).k = 2 → v.k = 2 := by
  unfold condV; split
  · intro h; exact absurd h (by decide)
  · exact id
theorem gro_cho {l m : List Vl} (h : GroL l m) : Gro (choV l) (choV m) := by
  have g0 := gro_get h 0
  have gc := gro_cond g0
  unfold choV
  rcases gc with g | g | ⟨g1, g2⟩
  · left; rw [if_neg (by omega)]; exact g
  · by_cases hk : (condV (m.getD 0 zeroV)).k = 2
    · have hm := cond_kind _ hk
      have hl := cond_kind (l.getD 0 zeroV) (by rw [g]; exact hk)
      have e : l.getD 0 zeroV = m.getD 0 zeroV := by
        rcases g0 with g | g | ⟨_, g⟩
        · omega
        · exact g
        · omega
      rw [if_pos (by rw [g]; exact hk), if_pos hk, e]
      split
      · exact gro_get h 1
      · exact gro_get h 2
    · rw [if_neg (by rw [g]; exact hk), if_neg hk, g]; exact gro_refl _
  · right; right; rw [if_neg (by omega), if_neg (by omega)]; exact ⟨g1, g2⟩
theorem gro_con (b : Bool) {l m : List Vl} (h : GroL l m) : Gro (conV b l) (conV b m) := by
  have g0 := gro_get h 0
  unfold conV
  rcases g0 with g | g | ⟨g1, g2⟩
  · left; rw [if_neg (c := (m.getD 0 zeroV).k = 2 ∧ _) (by omega)]; unfold condV; rw [if_neg (by omega)]; exact g
  · rw [g]
    split
    · exact gro_cond (gro_get h 1)
    · exact gro_refl _
  · right; right; rw [if_neg (by omega), if_neg (by omega)]; unfold condV; rw [if_neg (by omega), if_neg (by omega)]; exact ⟨g1, g2⟩
theorem ev_gro {fs gs : List (ByteArray × Vl)} (h : ∀ s, Gro (factV fs s) (factV gs s)) : ∀ x : Ex, Gro (Ex.ev fs x) (Ex.ev gs x) := by
  refine Ex.ind fun d l ih => ?_
  have hl : GroL (evL fs l) (evL gs l) := ⟨by rw [evL_len, evL_len], fun i hi => by
    rw [evL_len] at hi
    rw [evL_at fs l i hi, evL_at gs l i hi]; exact ih _ (List.getElem_mem hi)⟩
  rw [ev_mk, ev_mk]
  unfold evN
  split
  · exact gro_refl _
  split
  · exact h _
  split
  · exact gro_cho hl
  split
  · exact gro_con true hl
  split
  · exact gro_con false hl
  · exact gro_op _ hl

/-! ### Types -/
/-- A value of a type, or one of three errors. -/
def Snd (t : Int) (v : Vl) : Prop := v.ok ∧ (v.k = t ∨ (v.k = 5 ∧ (v.n = 7 ∨ v.n = 8 ∨ v.n = 1)))
theorem snd_res {t : Int} {r : Vl × Int} (h : Res t r) (h9 : r.2 ≠ 9) : Snd t (resV r) := by
  unfold resV
  rcases h with ⟨h1, h2, h3⟩ | h | h | h | h
  · rw [if_pos h1]; exact ⟨h2, .inl h3⟩
  · rw [if_neg (by omega), h]; exact ⟨ok_flt (by decide) (by decide), .inr ⟨rfl, .inr (.inr rfl)⟩⟩
  · rw [if_neg (by omega), h]; exact ⟨ok_flt (by decide) (by decide), .inr ⟨rfl, .inl rfl⟩⟩
  · rw [if_neg (by omega), h]; exact ⟨ok_flt (by decide) (by decide), .inr ⟨rfl, .inr (.inl rfl)⟩⟩
  · exact absurd h h9
theorem snd_two {a b : Vl} {t u r op : Int} (ha : Snd t a) (hb : Snd u b) (ht : t ≤ 3) (hu : u ≤ 3) (hc : a.k = t → b.k = u → Snd r (resV (compR op a b))) : Snd r (opV op [a, b]) := by
  unfold opV
  rcases ha with ⟨oa, ha | ⟨ha, fa⟩⟩
  · rcases hb with ⟨ob, hb | ⟨hb, fb⟩⟩
    · rw [show firstK 5 [a, b] = none by rw [firstK, if_neg (by omega), firstK, if_neg (by omega)]; rfl, show firstK 4 [a, b] = none by rw [firstK, if_neg (by omega), firstK, if_neg (by omega)]; rfl]
      exact hc ha hb
    · rw [show firstK 5 [a, b] = some b by rw [firstK, if_neg (by omega), firstK, if_pos hb]]
      exact ⟨ob, .inr ⟨hb, fb⟩⟩
  · rw [show firstK 5 [a, b] = some a by rw [firstK, if_pos ha]]
    exact ⟨oa, .inr ⟨ha, fa⟩⟩
theorem snd_one {a : Vl} {t r op : Int} (ha : Snd t a) (ht : t ≤ 3) (hc : a.k = t → Snd r (resV (compR op a a))) : Snd r (opV op [a]) := by
  unfold opV
  rcases ha with ⟨oa, ha | ⟨ha, fa⟩⟩
  · rw [show firstK 5 [a] = none by rw [firstK, if_neg (by omega)]; rfl, show firstK 4 [a] = none by rw [firstK, if_neg (by omega)]; rfl]
    exact hc ha
  · rw [show firstK 5 [a] = some a by rw [firstK, if_pos ha]]
    exact ⟨oa, .inr ⟨ha, fa⟩⟩
theorem len1 {α : Type} {l : List α} (h : l.length = 1) : ∃ a, l = [a] := by
  match l, h with
  | [a], _ => exact ⟨a, rfl⟩
theorem len2 {α : Type} {l : List α} (h : l.length = 2) : ∃ a b, l = [a, b] := by
  match l, h with
  | [a, b], _ => exact ⟨a, b, rfl⟩
theorem len3 {α : Type} {l : List α} (h : l.length = 3) : ∃ a b c, l = [a, b, c] := by
  match l, h with
  | [a, b, c], _ => exact ⟨a, b, c, rfl⟩
theorem cond_snd {v : Vl} (h : Snd 2 v) : condV v = v := by
  unfold condV; rw [if_neg (by rcases h with ⟨_, h | h⟩ <;> omega)]
/-- The types of facts are those of fields. -/
def Typed (fs : List (ByteArray × Int)) (gs : List (ByteArray × Vl)) : Prop := ∀ s t, fieldT fs s = (t, 0) → Snd t (factV gs s)
theorem ty_types {d : Nd} {l : List Ex} {fs : List (ByteArray × Int)} {t : Int} (h : Ex.ty fs (.mk d l) = (t, 0)) (h1 : d.op ≠ 1) (h2 : d.op ≠ 2) : (∀ x ∈ l, (Ex.ty fs x).2 = 0) ∧ applyR (ruleReq d.op) (ruleRes d.op) ((tyL fs l).map (·.1)) = (t, 0) := by
  rw [ty_mk] at h
  unfold tyN at h
  rw [if_neg h1, if_neg h2] at h
  by_cases he : errL (tyL fs l) = 0
  · rw [if_pos he] at h
    refine ⟨?_, h⟩
    clear h
    induction l with
    | nil => intro x hx; exact absurd hx (by simp)
    | cons x l ih =>
      rw [tyL_cons, errL] at he
      by_cases g : (Ex.ty fs x).2 = 0
      · rw [if_pos g] at he
        intro y hy
        rcases List.mem_cons.1 hy with rfl | hy
        · exact g
        · exact ih he y hy
      · rw [if_neg g] at he; exact absurd he g
  · rw [if_neg he] at h; injection h with _ h; exact absurd h he
theorem app_fits {req : List Int} {res t : Int} {ts : List Int} (h : applyR req res ts = (t, 0)) : fitsR req ts ∧ settl res (lastT ts) = t := by
  unfold applyR at h
  by_cases g : fitsR req ts
  · rw [if_pos g] at h; injection h with h _; exact ⟨g, h⟩
  · rw [if_neg g] at h; injection h with _ h; exact absurd h (by decide)
theorem ty_le {fs : List (ByteArray × Int)} (hfs : ∀ s t, fieldT fs s = (t, 0) → 1 ≤ t ∧ t ≤ 3) : ∀ (x : Ex) (t : Int), x.okN → Ex.ty fs x = (t, 0) → 1 ≤ t ∧ t ≤ 3 := by
  refine Ex.ind fun d l ih => ?_
  intro t hok h
  obtain ⟨o1, o2, o3⟩ := okN_op hok
  have hokl := ((okN_mk d l).1 hok).2
  by_cases h1 : d.op = 1
  · have := known_kind (okN_const hok h1)
    rw [ty_mk] at h; unfold tyN at h; rw [if_pos h1] at h; injection h with h _; omega
  by_cases h2 : d.op = 2
  · rw [ty_mk] at h; unfold tyN at h; rw [if_neg h1, if_pos h2] at h; exact hfs _ _ h
  obtain ⟨g1, g2⟩ := ty_types h h1 h2
  obtain ⟨_, g4⟩ := app_fits g2
  have hpos := (arity_cases d.op).2.2.1 h1 h2
  have hlast : 1 ≤ lastT ((tyL fs l).map (·.1)) ∧ lastT ((tyL fs l).map (·.1)) ≤ 3 := by
    have hlt : l.length - 1 < l.length := by omega
    have e : lastT ((tyL fs l).map (·.1)) = (Ex.ty fs l[l.length - 1]).1 := by
      unfold lastT
      rw [List.length_map, tyL_len, tyL_map, List.map_map, List.getD_eq_getElem?_getD, List.getElem?_map, List.getElem?_eq_getElem hlt]; rfl
    rw [e]
    have hm := List.getElem_mem hlt
    exact ih _ hm _ (hokl _ hm) (Prod.ext rfl (g1 _ hm))
  unfold settl at g4
  by_cases hr : ruleRes d.op = 0
  · rw [if_pos hr] at g4; omega
  · rw [if_neg hr] at g4
    have : ruleRes d.op = 0 ∨ ruleRes d.op = 3 ∨ ruleRes d.op = 2 ∨ ruleRes d.op = 1 := by
      unfold ruleRes; repeat' split
      all_goals omega
    omega
set_option maxHeartbeats 1000000 in
/-- What has a type has a value of this type, or one of three errors. -/
theorem ev_snd {fs : List (ByteArray × Int)} {gs : List (ByteArray × Vl)} (hfs : ∀ s t, fieldT fs s = (t, 0) → 1 ≤ t ∧ t ≤ 3) (hg : Typed fs gs) : ∀ (x : Ex) (t : Int), x.okN → Ex.ty fs x = (t, 0) → Snd t (Ex.ev gs x) := by
  refine Ex.ind fun d l ih => ?_
  intro t hok h
  obtain ⟨o1, o2, o3⟩ := okN_op hok
  have hokl := ((okN_mk d l).1 hok).2
  have hle := ty_le hfs _ t hok h
  by_cases h1 : d.op = 1
  · have hk := okN_const hok h1
    rw [ty_mk] at h; unfold tyN at h; rw [if_pos h1] at h; injection h with h _
    rw [ev_mk]; unfold evN; rw [if_pos h1]
    exact ⟨known_ok hk, .inl h⟩
  by_cases h2 : d.op = 2
  · rw [ty_mk] at h; unfold tyN at h; rw [if_neg h1, if_pos h2] at h
    rw [ev_mk]; unfold evN; rw [if_neg h1, if_pos h2]
    exact hg _ _ h
  obtain ⟨g1, g2⟩ := ty_types h h1 h2
  obtain ⟨g3, g4⟩ := app_fits g2
  have each : ∀ x ∈ l, Snd (Ex.ty fs x).1 (Ex.ev gs x) ∧ 1 ≤ (Ex.ty fs x).1 ∧ (Ex.ty fs x).1 ≤ 3 := fun x hx =>
    ⟨ih x hx _ (hokl x hx) (Prod.ext rfl (g1 x hx)), ty_le hfs x _ (hokl x hx) (Prod.ext rfl (g1 x hx))⟩
  obtain ⟨a1, a2, a3, a4, a5, a6⟩ := arity_cases d.op
  rw [ev_mk]; unfold evN; rw [if_neg h1, if_neg h2]
  by_cases p17 : d.op = 17
  · obtain ⟨x, y, z, rfl⟩ := len3 (o3.trans (a1 p17))
    rw [if_pos p17]
    rw [p17] at g3 g4
    simp only [tyL_cons, tyL_nil, List.map_cons, List.map_nil] at g3 g4
    have q0 : (Ex.ty fs x).1 = 2 := by have := g3 0 (by decide); simpa [ruleReq, settl] using this
    have q1 : (Ex.ty fs y).1 = (Ex.ty fs z).1 := by have := g3 1 (by decide); simpa [ruleReq, settl, lastT] using this
    have q2 : (Ex.ty fs z).1 = t := by simpa [ruleRes, settl, lastT] using g4
    have ex := (each x (by simp)).1
    have ey := (each y (by simp)).1
    have ez := (each z (by simp)).1
    rw [q0] at ex
    rw [q1, q2] at ey
    rw [q2] at ez
    simp only [evL_cons, evL_nil]
    unfold choV
    simp only [List.getD_cons_zero, List.getD_cons_succ]
    rw [cond_snd ex]
    by_cases k2 : (Ex.ev gs x).k = 2
    · rw [if_pos k2]; split
      · exact ey
      · exact ez
    · rw [if_neg k2]
      rcases ex with ⟨o, e | e⟩
      · exact absurd e k2
      · exact ⟨o, .inr e⟩
  rw [if_neg p17]
  have conv : ∀ b, d.op = 15 ∨ d.op = 16 → Snd t (conV b (evL gs l)) := fun b p => by
    obtain ⟨x, y, rfl⟩ := len2 (o3.trans (a2 p))
    simp only [tyL_cons, tyL_nil, List.map_cons, List.map_nil] at g3 g4
    have hreq : ruleReq d.op = [2, 2] := by rcases p with p | p <;> rw [p] <;> rfl
    have hres : ruleRes d.op = 2 := by rcases p with p | p <;> rw [p] <;> rfl
    rw [hreq] at g3
    rw [hres] at g4
    have q0 : (Ex.ty fs x).1 = 2 := by have := g3 0 (by simp); simpa [settl] using this
    have q1 : (Ex.ty fs y).1 = 2 := by have := g3 1 (by simp); simpa [settl] using this
    have q2 : t = 2 := by simpa [settl] using g4.symm
    subst q2
    have ex := (each x (by simp)).1
    have ey := (each y (by simp)).1
    rw [q0] at ex
    rw [q1] at ey
    simp only [evL_cons, evL_nil]
    unfold conV
    simp only [List.getD_cons_zero, List.getD_cons_succ]
    rw [cond_snd ex, cond_snd ey]
    split
    · exact ey
    · exact ex
  by_cases p15 : d.op = 15
  · rw [if_pos p15]; exact conv true (.inl p15)
  rw [if_neg p15]
  by_cases p16 : d.op = 16
  · rw [if_pos p16]; exact conv false (.inr p16)
  rw [if_neg p16]
  by_cases pu : d.op = 3 ∨ d.op = 4 ∨ d.op = 18
  · obtain ⟨x, rfl⟩ := len1 (o3.trans (a5 pu))
    simp only [tyL_cons, tyL_nil, List.map_cons, List.map_nil] at g3 g4
    obtain ⟨ex, _, hx3⟩ := each x (by simp)
    simp only [evL_cons, evL_nil]
    refine snd_one ex hx3 fun hk => ?_
    unfold compR
    rcases pu with p | p | p
    · rw [p] at g3 g4
      have q0 : (Ex.ty fs x).1 = 1 := by have := g3 0 (by decide); simpa [ruleReq, settl] using this
      have q2 : t = 1 := by simpa [ruleRes, settl] using g4.symm
      subst q2
      rw [if_pos p]
      exact snd_res (arR_res _ _ _).1 ((arR_res _ _ _).2 rfl (by omega))
    · rw [p] at g3 g4
      have q0 : (Ex.ty fs x).1 = 2 := by have := g3 0 (by decide); simpa [ruleReq, settl] using this
      have q2 : t = 2 := by simpa [ruleRes, settl] using g4.symm
      subst q2
      rw [if_neg (by omega), if_pos p]
      exact snd_res (notR_res _).1 (by rw [(notR_res _).2 (by omega)]; decide)
    · rw [p] at g3 g4
      have q0 : (Ex.ty fs x).1 = 3 := by have := g3 0 (by decide); simpa [ruleReq, settl] using this
      have q2 : t = 1 := by simpa [ruleRes, settl] using g4.symm
      subst q2
      rw [if_neg (by omega), if_neg (by omega), if_neg (by omega), if_pos p]
      exact snd_res (lenR_res ex.1).1 (by rw [(lenR_res ex.1).2 (by omega)]; decide)
  · obtain ⟨x, y, rfl⟩ := len2 (o3.trans (a6 (by omega) (by omega)))
    simp only [tyL_cons, tyL_nil, List.map_cons, List.map_nil] at g3 g4
    obtain ⟨ex, _, hx3⟩ := each x (by simp)
    obtain ⟨ey, _, hy3⟩ := each y (by simp)
    simp only [evL_cons, evL_nil]
    refine snd_two ex ey hx3 hy3 fun hk hj => ?_
    unfold compR
    rw [if_neg (by omega), if_neg (by omega)]
    by_cases p10 : d.op = 10
    · rw [p10] at g3 g4
      have q0 : (Ex.ty fs x).1 = 3 := by have := g3 0 (by decide); simpa [ruleReq, settl] using this
      have q1 : (Ex.ty fs y).1 = 3 := by have := g3 1 (by decide); simpa [ruleReq, settl] using this
      have q2 : t = 3 := by simpa [ruleRes, settl] using g4.symm
      subst q2
      rw [if_pos p10]
      exact snd_res (joinR_res ex.1 ey.1).1 ((joinR_res ex.1 ey.1).2 (by omega) (by omega))
    rw [if_neg p10, if_neg (by omega)]
    by_cases p5 : 5 ≤ d.op ∧ d.op ≤ 9
    · have hreq : ruleReq d.op = [1, 1] := by
        have : d.op = 5 ∨ d.op = 6 ∨ d.op = 7 ∨ d.op = 8 ∨ d.op = 9 := by omega
        rcases this with p | p | p | p | p <;> rw [p] <;> rfl
      have hres : ruleRes d.op = 1 := by
        have : d.op = 5 ∨ d.op = 6 ∨ d.op = 7 ∨ d.op = 8 ∨ d.op = 9 := by omega
        rcases this with p | p | p | p | p <;> rw [p] <;> rfl
      rw [hreq] at g3
      rw [hres] at g4
      have q0 : (Ex.ty fs x).1 = 1 := by have := g3 0 (by simp); simpa [settl] using this
      have q1 : (Ex.ty fs y).1 = 1 := by have := g3 1 (by simp); simpa [settl] using this
      have q2 : t = 1 := by simpa [settl] using g4.symm
      subst q2
      rw [if_pos p5]
      exact snd_res (arR_res _ _ _).1 ((arR_res _ _ _).2 (by omega) (by omega))
    · rw [if_neg p5]
      have hreq : ruleReq d.op = [0, 0] := by
        have : d.op = 11 ∨ d.op = 12 ∨ d.op = 13 ∨ d.op = 14 := by omega
        rcases this with p | p | p | p <;> rw [p] <;> rfl
      have hres : ruleRes d.op = 2 := by
        have : d.op = 11 ∨ d.op = 12 ∨ d.op = 13 ∨ d.op = 14 := by omega
        rcases this with p | p | p | p <;> rw [p] <;> rfl
      rw [hreq] at g3
      rw [hres] at g4
      have q0 : (Ex.ty fs x).1 = (Ex.ty fs y).1 := by have := g3 0 (by simp); simpa [settl, lastT] using this
      have q2 : t = 2 := by simpa [settl] using g4.symm
      subst q2
      exact snd_res (cmpR_res _ _ _).1 (by rw [(cmpR_res _ _ _).2 (by omega)]; decide)
end Go.Proofs.YtehkebncdahmcaaGreatDoor.EvP
