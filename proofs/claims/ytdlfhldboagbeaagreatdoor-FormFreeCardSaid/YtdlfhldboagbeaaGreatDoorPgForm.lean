/- A form's pages: they may be, each name stands on one of them; a name that is put twice. -/
import Derived.Test.YtdlfhldboagbeaaGreatDoorFrmOf
import Derived.Test.YtdlfhldboagbeaaGreatDoorPg
namespace Go.Proofs.YtdlfhldboagbeaaGreatDoor.PgF
open Go.RowKit
open ValM LexM NumM ExM NmM Kit ExL ExP ExN ExC RawV Within RawL RawN GenL Gen GenT GenV FrmM Frm FldP FldR FldC FrmT TyM Ty TyG NmG FrmO PgM
set_option linter.unusedVariables false

/-- Pages that may be, but for the fields on them. -/
structure Good (fs : List GenL.Fd) (ps : List PE) : Prop where
  few : 1 ≤ ps.length ∧ ps.length ≤ 6
  nm : ∀ (k : Nat) (h : k < ps.length), LexB.nameE ps[k].nm.data.toList = 0
  inj : ∀ (j k : Nat) (hj : j < ps.length) (hk : k < ps.length), ps[j].nm = ps[k].nm → j = k
  sk : ∀ (k : Nat) (h : k < ps.length), bareB ps[k].x.d ps[k].m = true ∨ fitsT (fts fs) ps[k].x 2 = 0
/-- The fields on them. -/
structure GoodN (fs : List GenL.Fd) (ps : List PE) : Prop where
  at' : ∀ (k : Nat) (h : k < ps.length), ∀ s ∈ ps[k].fs, atF fs s < fs.length
  one : ∀ (j k : Nat) (hj : j < ps.length) (hk : k < ps.length) (s : ByteArray), s ∈ ps[j].fs → s ∈ ps[k].fs → j = k
  nd : ∀ (k : Nat) (h : k < ps.length), ps[k].fs.Nodup
theorem Good.found {fs : List GenL.Fd} {ps : List PE} (h : Good fs ps) (k : Nat) (hk : k < ps.length) : pAt ps ps[k].nm = k := by
  unfold pAt
  exact fi_hit hk (fun j hj hjk => by unfold nmP; exact decide_eq_false fun e => by have := h.inj j k hj hk e; omega) (by unfold nmP; exact decide_eq_true rfl)
theorem GoodN.stands {fs : List GenL.Fd} {ps : List PE} (h : GoodN fs ps) (k : Nat) (hk : k < ps.length) (s : ByteArray) (hs : s ∈ ps[k].fs) : pOf ps s = k := by
  unfold pOf
  exact fi_hit hk (fun j hj hjk => by
    show hasB ps[j].fs s = false
    rw [← Bool.not_eq_true, hasB_true]
    intro e; have := h.one j k hj hk s e hs; omega) (by show hasB ps[k].fs s = true; exact (hasB_true _ _).2 hs)
theorem Good.page {fs : List GenL.Fd} {ps : List PE} (h : Good fs ps) (k : Nat) (hk : k < ps.length) (L : List ByteArray) (hL : ps[k].fs = L) : pageE fs ps k = scan (nameE fs (metP ps k) L) L.length := by
  subst hL
  unfold pageE
  rw [dif_pos hk, if_pos (h.nm k hk), h.found k hk, if_neg (Nat.lt_irrefl k)]
  by_cases h0 : scan (nameE fs (metP ps k) ps[k].fs) ps[k].fs.length = 0
  · rw [if_pos h0, h0]
    rcases h.sk k hk with e | e
    · rw [if_pos e]
    · split
      · rfl
      · exact e
  · rw [if_neg h0]
theorem met_mem (ps : List PE) (s : ByteArray) : ∀ k, k ≤ ps.length → (s ∈ metP ps k ↔ ∃ (j : Nat) (hj : j < ps.length), j < k ∧ s ∈ ps[j].fs)
  | 0, _ => by rw [metP_zero]; simp
  | k + 1, hk => by
    rw [metP_succ ps k (by omega), List.mem_append, met_mem ps s k (by omega)]
    constructor
    · rintro (⟨j, hj, h1, h2⟩ | h)
      · exact ⟨j, hj, by omega, h2⟩
      · exact ⟨k, by omega, by omega, h⟩
    · rintro ⟨j, hj, h1, h2⟩
      by_cases e : j = k
      · subst e; exact .inr h2
      · exact .inl ⟨j, hj, by omega, h2⟩
theorem nameE_ok {fs : List GenL.Fd} {met L : List ByteArray} {j : Nat} (hj : j < L.length) (ha : atF fs L[j] < fs.length) (hm : L[j] ∉ met) (hn : L[j] ∉ L.take j) : nameE fs met L j = 0 := by
  unfold nameE
  rw [dif_pos hj, if_pos ha, if_neg]
  rw [hasB_true, List.mem_append]
  rintro (h | h)
  · exact hm h
  · exact hn h
theorem nameE_met {fs : List GenL.Fd} {met L : List ByteArray} {j : Nat} (hj : j < L.length) (ha : atF fs L[j] < fs.length) (hm : L[j] ∈ met ∨ L[j] ∈ L.take j) : nameE fs met L j = 6 := by
  unfold nameE
  rw [dif_pos hj, if_pos ha, if_pos]
  rw [hasB_true, List.mem_append]
  exact hm
theorem nodup_take {L : List ByteArray} (h : L.Nodup) (j : Nat) (hj : j < L.length) : L[j] ∉ L.take j := fun hm => by
  obtain ⟨i, hi, e⟩ := List.getElem_of_mem hm
  rw [List.getElem_take] at e
  rw [List.length_take] at hi
  exact List.pairwise_iff_getElem.1 h i j (by omega) hj (by omega) e
/-- P11.2 holds. -/
theorem check_good {fs : List GenL.Fd} {ps : List PE} (h : Good fs ps) (hn : GoodN fs ps) : checkP fs ps = 0 := by
  have hf := h.few
  unfold checkP
  rw [if_neg (by omega)]
  refine scan_zero _ fun k hk => ?_
  rw [h.page k hk _ rfl]
  refine scan_zero _ fun j hj => ?_
  refine nameE_ok hj (hn.at' k hk _ (List.getElem_mem hj)) (fun hm => ?_) (nodup_take (hn.nd k hk) j hj)
  obtain ⟨i, hi, h1, h2⟩ := (met_mem ps _ k (by omega)).1 hm
  have := hn.one i k hi hk _ h2 (List.getElem_mem hj)
  omega
/-- The first name of page k behind those of page 0. -/
theorem check_twice {fs : List GenL.Fd} {ps qs : List PE} {s : ByteArray} {k : Nat} (hg : Good fs qs) (hn : GoodN fs ps) (hl : qs.length = ps.length) (hk : k < ps.length) (h0 : ∀ (h : 0 < ps.length) (h' : 0 < qs.length), qs[0].fs = ps[0].fs ++ [s]) (hr : ∀ (i : Nat) (h : i < ps.length) (h' : i < qs.length), 0 < i → qs[i].fs = ps[i].fs) (hs : ∃ r, ps[k].fs = s :: r) : checkP fs qs = 6 := by
  have hf := hg.few
  obtain ⟨r, hsr⟩ := hs
  have hsk : s ∈ ps[k].fs := by rw [hsr]; exact List.mem_cons_self
  have hat : atF fs s < fs.length := hn.at' k hk s hsk
  have hp0 : 0 < ps.length := by omega
  have hq0 : 0 < qs.length := by omega
  have met : ∀ i (hi : i < qs.length) t, t ∈ metP qs i → t = s ∨ ∃ (j : Nat) (hj : j < ps.length), j < i ∧ t ∈ ps[j].fs := fun i hi t ht => by
    obtain ⟨j, hj, h1, h2⟩ := (met_mem qs t i (by omega)).1 ht
    by_cases e : j = 0
    · subst e
      rw [h0 hp0 hq0, List.mem_append] at h2
      rcases h2 with h2 | h2
      · exact .inr ⟨0, hp0, h1, h2⟩
      · simp at h2; exact .inl h2
    · rw [hr j (by omega) hj (by omega)] at h2
      exact .inr ⟨j, by omega, h1, h2⟩
  have first : ∀ j, j < ps[0].fs.length → nameE fs (metP qs 0) (ps[0].fs ++ [s]) j = 0 := fun j hj => by
    have e : (ps[0].fs ++ [s])[j]'(by rw [List.length_append]; omega) = ps[0].fs[j] := List.getElem_append_left hj
    refine nameE_ok (by rw [List.length_append]; omega) ?_ ?_ ?_
    · rw [e]; exact hn.at' 0 hp0 _ (List.getElem_mem hj)
    · rw [metP_zero]; simp
    · rw [e, List.take_append_of_le_length (by omega)]
      exact nodup_take (hn.nd 0 hp0) j hj
  have last : (ps[0].fs ++ [s])[ps[0].fs.length]'(by simp) = s := by simp
  have hlen : (ps[0].fs ++ [s]).length = ps[0].fs.length + 1 := by simp
  unfold checkP
  rw [if_neg (by omega)]
  have key : ∀ i, i < k → pageE fs qs i = 0 := fun i hi => by
    have hiq : i < qs.length := by omega
    have hip : i < ps.length := by omega
    by_cases e : i = 0
    · subst e
      rw [hg.page 0 hq0 _ (h0 hp0 hq0)]
      refine scan_zero _ fun j hj => ?_
      rw [hlen] at hj
      by_cases hjl : j < ps[0].fs.length
      · exact first j hjl
      · obtain rfl : j = ps[0].fs.length := by omega
        refine nameE_ok (by omega) (by rw [last]; exact hat) (by rw [metP_zero]; simp) ?_
        rw [last, List.take_append_of_le_length (by omega), List.take_length]
        intro hm
        have := hn.one 0 k hp0 hk s hm hsk
        omega
    · rw [hg.page i hiq _ (hr i hip hiq (by omega))]
      refine scan_zero _ fun j hj => ?_
      refine nameE_ok hj (hn.at' i hip _ (List.getElem_mem hj)) (fun hm => ?_) (nodup_take (hn.nd i hip) j hj)
      rcases met i hiq _ hm with h1 | ⟨j', hj', h1, h2⟩
      · have := hn.one i k hip hk s (by rw [← h1]; exact List.getElem_mem hj) hsk
        omega
      · have := hn.one j' i hj' hip _ h2 (List.getElem_mem hj)
        omega
  have hit : pageE fs qs k = 6 := by
    by_cases e : k = 0
    · subst e
      rw [hg.page 0 hq0 _ (h0 hp0 hq0)]
      have h6 : nameE fs (metP qs 0) (ps[0].fs ++ [s]) ps[0].fs.length = 6 := by
        refine nameE_met (by omega) (by rw [last]; exact hat) (.inr ?_)
        rw [last, List.take_append_of_le_length (by omega), List.take_length]
        exact hsk
      rw [scan_stop _ ps[0].fs.length (by omega) first (by rw [h6]; decide), h6]
    · have hkq : k < qs.length := by omega
      rw [hg.page k hkq _ ((hr k hk hkq (by omega)).trans hsr)]
      have h6 : nameE fs (metP qs k) (s :: r) 0 = 6 := by
        refine nameE_met (L := s :: r) (by simp) hat (.inl ?_)
        refine (met_mem qs _ k (by omega)).2 ⟨0, hq0, by omega, ?_⟩
        rw [h0 hp0 hq0]; simp
      rw [scan_stop _ 0 (by simp) (fun j hj => by omega) (by rw [h6]; decide), h6]
  rw [scan_stop qs.length k (by omega) key (by rw [hit]; decide), hit]
/-! ### the pages of a form -/
theorem pages_at (rs : List Rw) (l : List FV) (n a : Nat) : ∀ N, ∀ (i : Nat) (h : i < (pagesV rs l n a N).1.length), ∃ b, (pagesV rs l n a N).1[i] = ⟨pgName i, onV l n i l.length, (skipV rs l b).1⟩
  | 0, i, h => absurd h (by simp [pagesV])
  | N + 1, i, h => by
    have hl := pagesV_len rs l n a N
    have hl' := pagesV_len rs l n a (N + 1)
    by_cases hi : i < (pagesV rs l n a N).1.length
    · have : (pagesV rs l n a (N + 1)).1[i] = (pagesV rs l n a N).1[i] := List.getElem_append_left hi
      rw [this]; exact pages_at rs l n a N i hi
    · have e : i = N := by omega
      subst e
      refine ⟨(pagesV rs l n a i).2, ?_⟩
      have key : ∀ (l : List PV) (z : PV) (h : l.length < (l ++ [z]).length), (l ++ [z])[l.length] = z := fun l z h => by simp
      have e2 : (pagesV rs l n a (i + 1)).1[(pagesV rs l n a i).1.length]'(by omega) = ⟨pgName i, onV l n i l.length, (skipV rs l (pagesV rs l n a i).2).1⟩ := key (pagesV rs l n a i).1 _ (by simp)
      have e3 : (pagesV rs l n a (i + 1)).1[i] = (pagesV rs l n a (i + 1)).1[(pagesV rs l n a i).1.length]'(by omega) := by congr 1; exact hl.symm
      rw [e3, e2]
theorem on_mem (l : List FV) (n i : Nat) (s : ByteArray) : ∀ k, k ≤ l.length → s ∈ onV l n i k → ∃ (j : Nat) (h : j < l.length), j < k ∧ j % (n + 1) = i ∧ s = l[j].nm
  | 0, _, h => by unfold onV at h; simp at h
  | k + 1, hk, h => by
    have e : (l[k]?.map FV.nm).getD ⟨#[]⟩ = (l[k]'(by omega)).nm := by rw [List.getElem?_eq_getElem (by omega)]; rfl
    unfold onV at h
    rw [e] at h
    have go : s ∈ onV l n i k → ∃ (j : Nat) (h : j < l.length), j < k + 1 ∧ j % (n + 1) = i ∧ s = l[j].nm := fun h => by
      obtain ⟨j, a, b, c⟩ := on_mem l n i s k (by omega) h
      exact ⟨j, a, by omega, c⟩
    by_cases hm : k % (n + 1) = i
    · rw [if_pos hm, List.mem_append] at h
      rcases h with h | h
      · exact go h
      · simp at h; exact ⟨k, by omega, by omega, hm, h⟩
    · rw [if_neg hm] at h; exact go h
theorem on_nd (l : List FV) (hinj : ∀ (i j : Nat) (hi : i < l.length) (hj : j < l.length), l[i].nm = l[j].nm → i = j) (n i : Nat) : ∀ k, k ≤ l.length → (onV l n i k).Nodup
  | 0, _ => List.nodup_nil
  | k + 1, hk => by
    have e : (l[k]?.map FV.nm).getD ⟨#[]⟩ = (l[k]'(by omega)).nm := by rw [List.getElem?_eq_getElem (by omega)]; rfl
    have ih := on_nd l hinj n i k (by omega)
    unfold onV
    rw [e]
    split
    · refine List.pairwise_append.2 ⟨ih, List.pairwise_singleton _ _, fun a ha b hb => ?_⟩
      simp at hb; subst hb
      obtain ⟨j, hj, h1, _, h2⟩ := on_mem l n i a k (by omega) ha
      intro e2
      have := hinj j k hj (by omega) (h2.symm.trans e2)
      omega
    · exact ih
theorem pgName_inj : ∀ i, i < 4 → ∀ j, j < 4 → pgName i = pgName j → i = j := by decide
theorem pgName_ok : ∀ i, i < 4 → LexB.nameE (pgName i).data.toList = 0 := by decide
theorem base_inj (rs : List Rw) : ∀ (i j : Nat) (hi : i < (baseV rs).length) (hj : j < (baseV rs).length), (baseV rs)[i].nm = (baseV rs)[j].nm → i = j := fun i j hi hj e => by
  rw [(base_at rs i hi).nm, (base_at rs j hj).nm] at e
  have h1 := baseV_len rs
  have h2 := countV_bd rs
  exact nmK_inj i (by omega) j (by omega) e
theorem base_all {rs : List Rw} {fs : List GenL.Fd} {X : Nat → Ex} {π : Nat → Nat} (h : OfBase rs fs X π) : ∀ f ∈ (baseV rs).map fdOf, nmB f.nm.data.toList = true ∧ fieldT (fts fs) f.nm = (f.ty, 0) := fun f hf => by
  obtain ⟨v, hv, rfl⟩ := List.mem_map.1 hf
  obtain ⟨m, hm, rfl⟩ := List.getElem_of_mem hv
  have hml : m < countV rs := by rw [← baseV_len]; exact hm
  have hb := base_at rs m hm
  have hl := h.len
  obtain ⟨j, hj, e⟩ := h.sur m (by omega)
  have h10 := h.ten
  have hnm : (fdOf (baseV rs)[m]).nm = nmK m := hb.nm
  refine ⟨by rw [hnm]; exact (nmK_ok m (by omega)).1, ?_⟩
  have hT := fieldT_fts (fs := fs) (s := nmK m) hj (fun q hq hqj eq => by
    rw [h.nm q hq] at eq
    have := h.inj q j hq hj (nmK_inj _ (by have := h.lt q hq; omega) _ (by omega) (eq.trans (by rw [e])))
    omega) (by rw [h.nm j hj, e])
  rw [hnm, hT]
  have h3 := (h.at' j hj (h.bl hj)).2.2.1
  have h4 : (baseV rs)[π j]'(h.bl hj) = (baseV rs)[m]'hm := by simp only [e]
  rw [h3, h4]; rfl
theorem skip_fits {rs : List Rw} {fs : List GenL.Fd} {X : Nat → Ex} {π : Nat → Nat} (h : OfBase rs fs X π) (b : Nat) : (skipV rs (baseV rs) b).1 = zeroX ∨ fitsT (fts fs) (skipV rs (baseV rs) b).1 2 = 0 := by
  unfold skipV
  split
  · refine .inr ?_
    have ha := base_all h
    rw [← nts_fdOf]
    have hg := exprV_gn (rs := rs) (fs := (baseV rs).map fdOf) 1 2 (nextA rs b)
    obtain ⟨g1, g2, g3⟩ := gn_ok (fun f hf => (ha f hf).1) 1 2 _ hg
    have e1 : nb 1 ≤ 13 := by decide
    have hc : (exprV rs (nts ((baseV rs).map fdOf)) 1 2 (nextA rs b)).1.checkE = 0 := by rw [checkE_ok (by omega) (by omega)]; exact g1
    have ht := gn_ty2 (fun f hf => (ha f hf).2) 1 2 _ (by decide) (by decide) hg
    have ho := ofT_ty (fs := fts fs) hc
    unfold fitsT
    rw [ho, ht, if_pos rfl, if_pos rfl]
  · exact .inl rfl
theorem pe_at {l : List PV} {ps : List PE} (h : ps.map PE.v = l) (i : Nat) (hi : i < ps.length) (hj : i < l.length) : ps[i].v = l[i] := by
  have : (ps.map PE.v)[i]'(by simpa using hi) = l[i] := by simp only [h]
  rw [← this, List.getElem_map]
/-- The pages of a form may be, and each field stands on one page at most. -/
theorem form_pages {rs : List Rw} {es : List FE} {ps : List PE} {P Q : Nat → Prop} {w w' : World} {A PA : Option Addr} (h : es.map FE.v = formF rs) (hr : FRow P w A es) (hpv : ps.map PE.v = formP rs) (hpr : PRow Q w' PA ps) :
    (1 ≤ ps.length ∧ ps.length ≤ 4) ∧ Good (es.map FE.fd) ps ∧ GoodN (es.map FE.fd) ps ∧ ∀ (k : Nat) (h : k < ps.length), ps[k].nm.size ≤ 4 ∧ ∀ s ∈ ps[k].fs, s.size ≤ 4 := by
  have hB := form_base h hr
  have hbd := pageN_bd rs
  have hlen : ps.length = pageN rs := by
    have := congrArg List.length hpv
    rw [List.length_map] at this
    rw [this]; exact pagesV_len _ _ _ _ _
  have hbl := baseV_len rs
  have hcb := countV_bd rs
  have at' : ∀ (k : Nat) (hk : k < ps.length), ∃ b, ps[k].nm = pgName k ∧ ps[k].fs = onV (baseV rs) (pageN rs) k (baseV rs).length ∧ ps[k].x = (skipV rs (baseV rs) b).1 := fun k hk => by
    have hkf : k < (formP rs).length := by rw [← hpv, List.length_map]; exact hk
    obtain ⟨b, e⟩ := pages_at rs (baseV rs) (pageN rs) (fieldsV rs (countV rs)).2 (pageN rs) k hkf
    have e1 := (pe_at hpv k hk hkf).trans e
    exact ⟨b, congrArg PV.nm e1, congrArg PV.fs e1, congrArg PV.x e1⟩
  have mem : ∀ (k : Nat) (hk : k < ps.length) (s : ByteArray), s ∈ ps[k].fs → ∃ j, j < countV rs ∧ j % (pageN rs + 1) = k ∧ s = nmK j := fun k hk s hs => by
    obtain ⟨b, _, e, _⟩ := at' k hk
    rw [e] at hs
    obtain ⟨j, hj, _, h2, h3⟩ := on_mem _ _ _ s _ (Nat.le_refl _) hs
    exact ⟨j, by omega, h2, by rw [h3, (base_at rs j hj).nm]⟩
  refine ⟨by omega, ⟨by omega, fun k hk => ?_, fun j k hj hk e => ?_, fun k hk => ?_⟩, ⟨fun k hk s hs => ?_, fun j k hj hk s h1 h2 => ?_, fun k hk => ?_⟩, fun k hk => ⟨?_, fun s hs => ?_⟩⟩
  · obtain ⟨b, e, _⟩ := at' k hk
    rw [e]; exact pgName_ok k (by omega)
  · obtain ⟨b, e1, _⟩ := at' j hj
    obtain ⟨b, e2, _⟩ := at' k hk
    rw [e1, e2] at e
    exact pgName_inj j (by omega) k (by omega) e
  · obtain ⟨b, _, _, e⟩ := at' k hk
    rcases skip_fits hB b with h1 | h1
    · refine .inl ?_
      obtain ⟨g, _, _, _, his⟩ := hpr k hk
      have his := his.skip
      rw [e.trans h1] at his ⊢
      exact bare_zero his
    · exact .inr (by rw [e]; exact h1)
  · obtain ⟨j, hj, _, rfl⟩ := mem k hk s hs
    obtain ⟨i, hi, e⟩ := hB.sur j (by rw [hB.len]; exact hj)
    have := hB.place i hi
    rw [e] at this
    rw [this]; exact hi
  · obtain ⟨a, ha, h3, h4⟩ := mem j hj s h1
    obtain ⟨b, hb, h5, h6⟩ := mem k hk s h2
    have := nmK_inj a (by omega) b (by omega) (h4.symm.trans h6)
    subst this
    omega
  · obtain ⟨b, _, e, _⟩ := at' k hk
    rw [e]; exact on_nd _ (base_inj rs) _ _ _ (Nat.le_refl _)
  · obtain ⟨b, e, _⟩ := at' k hk
    rw [e]; show 2 ≤ 4; decide
  · obtain ⟨j, hj, _, rfl⟩ := mem k hk s hs
    exact nmK_size j
/-! ### in memory -/
theorem prow_pgs {P : Nat → Prop} {w : World} {A : Option Addr} {ps : List PE} (h : PRow P w A ps) : Pgs w A ps := fun i hi => by
  obtain ⟨g, e, _, hc, _⟩ := h i hi
  refine ⟨_, e, ?_⟩
  rw [add_block]
  exact ⟨hc 0 (by decide), hc 1 (by decide), hc 2 (by decide), hc 3 (by decide), hc 4 (by decide), hc 5 (by decide), hc 6 (by decide), hc 7 (by decide)⟩
theorem strP_trow {P : Nat → Prop} {w : World} {A : Option Addr} {L : List ByteArray} (h : StrP P w A L) : TRow w A L := fun j hj => by
  obtain ⟨a, e, _, hc⟩ := h j hj
  exact ⟨a, e, hc⟩
theorem prow_ok {P : Nat → Prop} {w : World} {A : Option Addr} {ps : List PE} (h : PRow P w A ps) (hs : ∀ (k : Nat) (h : k < ps.length), ps[k].nm.size ≤ 4 ∧ ∀ s ∈ ps[k].fs, s.size ≤ 4) : PgsOk w ps := fun e he => by
  obtain ⟨k, hk, rfl⟩ := List.getElem_of_mem he
  obtain ⟨g, _, _, _, hi⟩ := h k hk
  obtain ⟨h1, h2⟩ := hs k hk
  exact ⟨by unfold maxLen; omega, strP_trow hi.str, fun s hs => by have := h2 s hs; unfold maxLen; omega, by have := hi.len; unfold maxLen; omega, IsP.is _ _ _ _ hi.skip⟩
/-! ### the small form -/
theorem small_pages {es : List FE} {ps : List PE} {P : Nat → Prop} {w : World} {A : Option Addr} (h : es.map FE.v = smallV) (hp : ps.map PE.v = smallP) (hpr : PRow P w A ps) :
    ps.length = 2 ∧ checkP (es.map FE.fd) ps = 0 ∧ ∀ (k : Nat) (h : k < ps.length), ps[k].nm.size ≤ 4 ∧ ∀ s ∈ ps[k].fs, s.size ≤ 4 := by
  have hc := small_c h
  have hl := small_len h
  have ha : atF (es.map FE.fd) ⟨#[97]⟩ = 1 := by
    match es, h, hl with
    | [a, b, c], h, _ =>
      simp only [List.map_cons, List.map_nil, smallV, List.cons.injEq, and_true] at h
      obtain ⟨h1, h2, h3⟩ := h
      have e1 : a.fd.nm = ⟨#[98]⟩ := congrArg FV.nm h1
      have e2 : b.fd.nm = ⟨#[97]⟩ := congrArg FV.nm h2
      have e3 : c.fd.nm = ⟨#[99]⟩ := congrArg FV.nm h3
      simp only [List.map_cons, List.map_nil, atF, e1, e2, e3]
      decide
  have hpl : ps.length = 2 := by
    have := congrArg List.length hp
    simpa [smallP] using this
  have hfl : (es.map FE.fd).length = 3 := by rw [List.length_map]; exact hl
  have e0 := pe_at hp 0 (by omega) (by decide)
  have e1 := pe_at hp 1 (by omega) (by decide)
  have a0 : ps[0].nm = ⟨#[112, 49]⟩ := congrArg PV.nm e0
  have b0 : ps[0].fs = [⟨#[97]⟩] := congrArg PV.fs e0
  have c0 : ps[0].x = zeroX := congrArg PV.x e0
  have a1 : ps[1].nm = ⟨#[112, 50]⟩ := congrArg PV.nm e1
  have b1 : ps[1].fs = [⟨#[99]⟩] := congrArg PV.fs e1
  have c1 : ps[1].x = zeroX := congrArg PV.x e1
  have two : ∀ k, k < ps.length → k = 0 ∨ k = 1 := fun k hk => by omega
  have sk : ∀ (k : Nat) (hk : k < ps.length), ps[k].x = zeroX → bareB ps[k].x.d ps[k].m = true := fun k hk e => by
    obtain ⟨g, _, _, _, his⟩ := hpr k hk
    have his := his.skip
    rw [e] at his ⊢
    exact bare_zero his
  have d1 : ¬ (⟨#[112, 49]⟩ : ByteArray) = ⟨#[112, 50]⟩ := by decide
  have d2 : ¬ (⟨#[97]⟩ : ByteArray) = ⟨#[99]⟩ := by decide
  have hG : Good (es.map FE.fd) ps := by
    refine ⟨by omega, fun k hk => ?_, fun j k hj hk e => ?_, fun k hk => ?_⟩
    · rcases two k hk with rfl | rfl
      · rw [a0]; decide
      · rw [a1]; decide
    · rcases two j hj with rfl | rfl <;> rcases two k hk with rfl | rfl
      · rfl
      · rw [a0, a1] at e; exact absurd e d1
      · rw [a0, a1] at e; exact absurd e.symm d1
      · rfl
    · rcases two k hk with rfl | rfl
      · exact .inl (sk 0 hk c0)
      · exact .inl (sk 1 hk c1)
  have hN : GoodN (es.map FE.fd) ps := by
    refine ⟨fun k hk s hs => ?_, fun j k hj hk s h1 h2 => ?_, fun k hk => ?_⟩
    · rcases two k hk with rfl | rfl
      · rw [b0] at hs; simp at hs; subst hs; rw [ha, hfl]; decide
      · rw [b1] at hs; simp at hs; subst hs; rw [hc, hfl]; decide
    · rcases two j hj with rfl | rfl <;> rcases two k hk with rfl | rfl
      · rfl
      · rw [b0] at h1; rw [b1] at h2; simp at h1 h2; exact absurd (h1.symm.trans h2) d2
      · rw [b1] at h1; rw [b0] at h2; simp at h1 h2; exact absurd (h2.symm.trans h1) d2
      · rfl
    · rcases two k hk with rfl | rfl
      · rw [b0]; exact List.pairwise_singleton _ _
      · rw [b1]; exact List.pairwise_singleton _ _
  refine ⟨hpl, check_good hG hN, fun k hk => ?_⟩
  rcases two k hk with rfl | rfl
  · rw [a0, b0]; exact ⟨by decide, fun s hs => by simp at hs; subst hs; decide⟩
  · rw [a1, b1]; exact ⟨by decide, fun s hs => by simp at hs; subst hs; decide⟩
theorem small_nm {es : List FE} (h : es.map FE.v = smallV) (k : Nat) (hk : k < (es.map FE.fd).length) : (es.map FE.fd)[k].nm.size ≤ maxLen := by
  have hl := small_len h
  rw [List.length_map] at hk
  rw [List.getElem_map]
  have e : es[k].v = smallV[k]'(by show k < 3; omega) := by
    have : (es.map FE.v)[k]'(by simpa using hk) = smallV[k]'(by show k < 3; omega) := by simp only [h]
    rw [← this, List.getElem_map]
  have hn : es[k].nm = (smallV[k]'(by show k < 3; omega)).nm := congrArg FV.nm e
  have hall : ∀ f ∈ smallV, f.nm.size ≤ 4 := by decide
  show es[k].nm.size ≤ _
  rw [hn]
  have := hall _ (List.getElem_mem (l := smallV) (n := k) (by show k < 3; omega))
  unfold maxLen; omega
/-- The formulas of the pages are small. -/
theorem form_nodes {rs : List Rw} {es : List FE} {ps : List PE} {P : Nat → Prop} {w : World} {A : Option Addr} (h : es.map FE.v = formF rs) (hr : FRow P w A es) (hpv : ps.map PE.v = formP rs) (k : Nat) (hk : k < ps.length) : ps[k].x.nodes ≤ 1048576 := by
  have hB := form_base h hr
  have hkf : k < (formP rs).length := by rw [← hpv, List.length_map]; exact hk
  obtain ⟨b, e⟩ := pages_at rs (baseV rs) (pageN rs) (fieldsV rs (countV rs)).2 (pageN rs) k hkf
  have e1 : ps[k].x = (skipV rs (baseV rs) b).1 := congrArg PV.x ((pe_at hpv k hk hkf).trans e)
  rw [e1]
  unfold skipV
  split
  · have ha := base_all hB
    rw [← nts_fdOf]
    obtain ⟨g1, g2, g3⟩ := gn_ok (fun f hf => (ha f hf).1) 1 2 _ (exprV_gn (rs := rs) (fs := (baseV rs).map fdOf) 1 2 (nextA rs b))
    have e2 : nb 1 ≤ 13 := by decide
    omega
  · show zeroX.nodes ≤ 1048576
    unfold zeroX
    decide
end Go.Proofs.YtdlfhldboagbeaaGreatDoor.PgF
