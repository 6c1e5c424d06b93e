/- Fields that may be: what each refers to is there; rank.Of beside the reference's FieldRanks. -/
import Derived.Test.YthgcmficmodhiaaGreatDoorRkTri
namespace Go.Proofs.YthgcmficmodhiaaGreatDoor.RkY
open Go.RowKit
open ValM LexM NumM ExM NmM Kit ExL ExP ExN ExC RawV Within RawL GenL FldP FldR FldC TyM Ty NmO NmA NmI NmT NmR RkM RkA RkB RkC RkD RkO RkL CycO SMp RkV RkW RkX EvP
set_option linter.unusedVariables false

theorem refsL_mem {l : List Ex} {s : ByteArray} (h : s ∈ refsL l) : ∃ x ∈ l, s ∈ Ex.refs x := by
  induction l with
  | nil => rw [refsL_nil] at h; simp at h
  | cons x l ih =>
    rw [refsL_cons] at h
    rcases List.mem_append.1 h with h | h
    · exact ⟨x, by simp, h⟩
    · obtain ⟨y, hy, g⟩ := ih h
      exact ⟨y, by simp [hy], g⟩
/-- What has a type refers to fields that are there. -/
theorem ty_there {G : List (ByteArray × Int)} : ∀ (x : Ex) (t : Int), x.okN → Ex.ty G x = (t, 0) → ∀ s ∈ Ex.refs x, (fieldT G s).2 = 0 := by
  refine Ex.ind fun d l ih => ?_
  intro t hok h s hs
  have hokl := ((okN_mk d l).1 hok).2
  by_cases h2 : d.op = 2
  · have hl : l.length = 0 := by
      rw [(okN_op hok).2.2, h2]; rfl
    obtain rfl : l = [] := List.eq_nil_of_length_eq_zero hl
    rw [refs_mk_pos d [] h2, refsL_nil] at hs
    simp at hs
    subst hs
    rw [ty_mk] at h; unfold tyN at h; rw [if_neg (by omega), if_pos h2] at h; rw [h]
  · rw [refs_mk_neg d l h2] at hs
    obtain ⟨y, hy, hsy⟩ := refsL_mem hs
    by_cases h1 : d.op = 1
    · have hl : l.length = 0 := by
        rw [(okN_op hok).2.2, h1]; rfl
      obtain rfl : l = [] := List.eq_nil_of_length_eq_zero hl
      simp at hy
    · obtain ⟨g1, _⟩ := ty_types h h1 h2
      exact ih y hy _ (hokl y hy) (Prod.ext rfl (g1 y hy)) s hsy
/-- What valid fields keep. -/
theorem valid_own {fs : List GenL.Fd} {X : Nat → Ex} (h0 : checkF fs X = 0) : fs.length ≤ 14 ∧ (∀ k (hk : k < fs.length), rightE fs[k] (X k) = 0 ∧ atF fs fs[k].nm = k) ∧ ∀ k (hk : k < fs.length), srcE fs fs[k] (X k) = 0 := by
  unfold checkF at h0
  by_cases hl : 14 < fs.length
  · rw [if_pos hl] at h0; exact absurd h0 (by decide)
  · rw [if_neg hl] at h0
    have hz : ∀ (P : Nat → Int) (n : Nat), scan P n = 0 → ∀ j, j < n → P j = 0 := fun P n => by
      induction n with
      | zero => intro _ j hj; omega
      | succ n ih =>
        intro h j hj
        unfold scan at h
        by_cases e : scan P n = 0
        · rw [if_pos e] at h
          by_cases h2 : j = n
          · subst h2; exact h
          · exact ih e j (by omega)
        · rw [if_neg e] at h; exact absurd h e
    by_cases h1 : scan (ownE fs X) fs.length = 0
    · rw [if_pos h1] at h0
      refine ⟨by omega, fun k hk => ?_, fun k hk => ?_⟩
      · have h2 := hz _ _ h1 k hk
        unfold ownE at h2
        rw [dif_pos hk] at h2
        by_cases h3 : rightE fs[k] (X k) = 0
        · rw [if_pos h3] at h2
          by_cases h4 : atF fs fs[k].nm < k
          · rw [if_pos h4] at h2; exact absurd h2 (by decide)
          · refine ⟨h3, ?_⟩
            rcases Nat.lt_or_ge k (atF fs fs[k].nm) with h5 | h5
            · exfalso
              by_cases h6 : atF fs fs[k].nm < fs.length
              · exact (atF_at h6).2 k hk h5 rfl
              · by_cases h7 : ∃ j, ∃ hj : j < fs.length, fs[j].nm = fs[k].nm ∧ ∀ i (hi : i < fs.length), i < j → fs[i].nm ≠ fs[k].nm
                · obtain ⟨j, hj, e, hm⟩ := h7
                  have := atF_eq fs fs[k].nm j hj hm e
                  omega
                · have h8 : ∀ j (hj : j < fs.length), fs[j].nm ≠ fs[k].nm := fun j => by
                    refine Nat.strongRecOn j fun j ih hj e => h7 ⟨j, hj, e, fun i hi hij => ih i hij hi⟩
                  exact h8 k hk rfl
            · omega
        · rw [if_neg h3] at h2; exact absurd h2 h3
      · have h2 := hz _ _ h0 k hk
        unfold typE at h2
        rwa [dif_pos hk] at h2
    · rw [if_neg h1] at h0; exact absurd h0 h1
theorem valid_inj {fs : List GenL.Fd} {X : Nat → Ex} (h0 : checkF fs X = 0) (i j : Nat) (hi : i < fs.length) (hj : j < fs.length) (e : nmF fs i = nmF fs j) : i = j := by
  obtain ⟨_, h, _⟩ := valid_own h0
  rw [nmF_at fs i hi, nmF_at fs j hj] at e
  rw [← (h i hi).2, e, (h j hj).2]
/-- A source that may be. -/
theorem valid_src {fs : List GenL.Fd} {X : Nat → Ex} (h0 : checkF fs X = 0) (k : Nat) (hk : k < fs.length) (hk1 : fs[k].kind ≠ 1) : (X k).checkE = 0 ∧ ∀ s ∈ Ex.refs (X k), atF fs s < fs.length := by
  obtain ⟨_, h1, h2⟩ := valid_own h0
  have hr := (h1 k hk).1
  have hs := h2 k hk
  have hkt : isT fs[k].kind = true := by
    unfold rightE at hr
    by_cases h3 : LexB.nameE fs[k].nm.data.toList ≠ 0
    · rw [if_pos h3] at hr; exact absurd hr h3
    · rw [if_neg h3] at hr
      by_cases h4 : isT fs[k].kind = true ∧ isT fs[k].ty = true
      · exact h4.1
      · rw [if_neg h4] at hr; exact absurd hr (by decide)
  have hc : (X k).checkE = 0 := by
    unfold rightE at hr
    by_cases h3 : LexB.nameE fs[k].nm.data.toList ≠ 0
    · rw [if_pos h3] at hr; exact absurd hr h3
    · rw [if_neg h3] at hr
      by_cases h4 : isT fs[k].kind = true ∧ isT fs[k].ty = true
      · rw [if_pos h4, if_neg hk1] at hr; exact hr
      · rw [if_neg h4] at hr; exact absurd hr (by decide)
  refine ⟨hc, fun s hs2 => ?_⟩
  have hk3 := isT_iff.1 hkt
  have ht : ∃ t, Ex.ty (fts fs) (X k) = (t, 0) := by
    have hof : ofT (fts fs) (X k) = Ex.ty (fts fs) (X k) := by unfold ofT; rw [if_pos hc]
    unfold srcE at hs
    by_cases h2k : fs[k].kind = 2
    · rw [if_pos h2k] at hs
      unfold fitsT at hs
      rw [hof] at hs
      by_cases h5 : (Ex.ty (fts fs) (X k)).2 = 0
      · exact ⟨_, Prod.ext rfl h5⟩
      · rw [if_neg h5] at hs; exact absurd hs h5
    · rw [if_neg h2k, if_pos (by omega), hof] at hs
      exact ⟨_, Prod.ext rfl hs⟩
  obtain ⟨t, ht⟩ := ht
  have hf := ty_there (X k) t (checkE_zero hc).2.2 ht s hs2
  rcases Nat.lt_or_ge (atF fs s) fs.length with h | h
  · exact h
  · exfalso
    have h3 : ∀ j (hj : j < fs.length), fs[j].nm ≠ s := fun j => by
      refine Nat.strongRecOn j fun j ih hj e => ?_
      have := atF_eq fs s j hj (fun i hi hij => ih i hij hi) e
      omega
    rw [fieldT_fts_none h3] at hf
    exact absurd hf (by decide)
theorem valid_names {fs : List GenL.Fd} {X : Nat → Ex} (h0 : checkF fs X = 0) (k : Nat) (hk : k < fs.length) : srcL fs[k] (X k) = (nd (needsF fs X) k).map (nmF fs) := by
  rw [needsF_nd _ _ _ hk]
  unfold srcL needF
  rw [dif_pos hk]
  by_cases hk1 : fs[k].kind = 1
  · rw [if_pos hk1, if_pos hk1]; rfl
  · rw [if_neg hk1, if_neg hk1]
    obtain ⟨hc, hr⟩ := valid_src h0 k hk hk1
    unfold ofL
    rw [if_pos hc, List.map_map]
    refine (List.map_id _).symm.trans (List.map_congr_left fun s hs => ?_)
    have hs2 : s ∈ Ex.refs (X k) := by
      have e := bytes_refs (Ex.refs (X k))
      unfold mkL at hs
      obtain ⟨b, hb, rfl⟩ := List.mem_map.1 hs
      rw [rise_mem] at hb
      rw [← e]
      unfold mkL
      exact List.mem_map.2 ⟨b, hb, rfl⟩
    have h2 := hr s hs2
    show s = nmF fs (plN fs s)
    unfold plN
    rw [if_pos h2, nmF_at fs _ h2, (atF_at h2).1]
theorem nd_few {fs : List GenL.Fd} {X : Nat → Ex} (k : Nat) (hk : k < fs.length) : (nd (needsF fs X) k).length ≤ 1000 := by
  rw [needsF_nd _ _ _ hk]
  unfold needF
  rw [dif_pos hk]
  split
  · simp
  · rw [List.length_map, mkL_len]; have := ofL_len (X k); omega
/-- FieldRanks of valid fields. -/
theorem ranks_valid (fs : List GenL.Fd) (X : Nat → Ex) (FA : Option Addr) (fc : Nat) (w : World) (hn1 : 1 ≤ fs.length) (hf : Flds w FA fs) (hX : Forms w fs X) (hN : ∀ k, k < fs.length → (X k).nodes ≤ 1048576) (h0 : checkF fs X = 0) :
    Calls Tryz.prog 6 #[.slice FA fs.length fc] w (RefRanks (needsF fs X) (rankF (needsF fs X)) (nmF fs) fs.length w) := by
  obtain ⟨hm, hv, _⟩ := valid_own h0
  have hnl := needsF_len fs X
  refine refRanks_any (needsF fs X) (rankF (needsF fs X)) (nmF fs) fs.length FA fc w hn1 hm hnl (by rw [rankF_len, hnl]) (rankF_fix _) (fun i => (bd_pass (needsF fs X) (needsF fs X).length i).1) ?_ ?_ (valid_inj h0) ?_ ?_ ?_
  · have := FldC.refCheck_any fs X FA fc w (by omega) hf hX hN
    rw [h0] at this
    exact this
  · intro V hV i hi
    have := refAt_any (nmF fs i) fs FA fc V (hf.below hV) (by omega)
    rw [nmF_at fs i hi, (hv i hi).2] at this
    rw [nmF_at fs i hi]
    exact this
  · intro i hi
    rw [nmF_at fs i hi]; exact (hX i hi).1
  · intro i hi
    refine ⟨nd_few i hi, ?_⟩
    have := ((needsF_ok fs X hm).2 i (by rw [hnl]; exact hi)).2
    rwa [hnl] at this
  · intro V hV i hi
    obtain ⟨ad, e, hat⟩ := hf.below hV i hi
    refine ⟨ad, fs[i], e, hat, (nmF_at fs i hi).symm, fun V' hV' => ?_⟩
    rw [← valid_names h0 i hi]
    exact sources_any fs[i] (X i) V' (hN i hi) ((hX i hi).2.below hV')
/-- Both tell the same. -/
theorem rank_tri (fs : List GenL.Fd) (X : Nat → Ex) (FA : Option Addr) (fc : Nat) (w : World) (hl : fs.length ≤ 1048576) (hf : Flds w FA fs) (hX : Forms w fs X) (hN : ∀ k, k < fs.length → (X k).nodes ≤ 1048576) (hT : Tab w) (hcap : fs.length ≤ fc ∧ fc ≤ maxLen) :
    ∃ L T R, L.length ≤ 1048576 ∧ T.length ≤ 1048576 ∧ Calls Tryz.prog 5 #[.slice FA fs.length fc] w (Tri L T R w) ∧ ∀ V, Below w.heap.size w V → Calls Tryz.prog 6 #[.slice FA fs.length fc] V (Tri L T R V) := by
  by_cases h0 : checkF fs X = 0
  · obtain ⟨hm, hv, _⟩ := valid_own h0
    have hnl := needsF_len fs X
    have hrl : (rankF (needsF fs X)).length = fs.length := by rw [rankF_len, hnl]
    have hbd : ∀ i, -1 ≤ rk (rankF (needsF fs X)) i := fun i => (bd_pass (needsF fs X) (needsF fs X).length i).1
    by_cases hall : ∀ i, i < fs.length → rk (rankF (needsF fs X)) i ≠ -1
    · refine ⟨rankF (needsF fs X), [], 0, by omega, by simp, ?_, fun V hV => ?_⟩
      · refine (of_ok fs X FA fc w hm hf hX hT hcap h0 (fun i hi => by have := hall i hi; have := hbd i; omega)).mono fun e w' h => ?_
        obtain ⟨v, rfl, hown, hb⟩ := h
        exact ⟨v, _, rfl, IntsV.of_own hown (by rw [hrl, hnl]), TextsV.nil _, hb⟩
      · rcases Nat.eq_zero_or_pos fs.length with hz | hz
        · have hff := FldC.refCheck_any fs X FA fc V (by omega) (hf.below hV) (hX.below hV) hN
          rw [h0, hz] at hff
          rw [hz]
          refine (refRanks_nil FA fc V hff).mono fun e w' h => ?_
          obtain ⟨rfl, hb⟩ := h
          have e0 : rankF (needsF fs X) = [] := List.eq_nil_of_length_eq_zero (by omega)
          rw [e0]
          exact ⟨_, _, rfl, IntsV.nil _, TextsV.nil _, hb⟩
        · refine (ranks_valid fs X FA fc V hz (hf.below hV) (hX.below hV) hN h0).mono fun e w' h => ?_
          obtain ⟨h1, _, hb⟩ := h
          obtain ⟨v, rfl, hown⟩ := h1 hall
          exact ⟨v, _, rfl, IntsV.of_own hown hrl, TextsV.nil _, hb⟩
    · obtain ⟨at0, hat, hau, hfst⟩ : ∃ i, i < fs.length ∧ rk (rankF (needsF fs X)) i = -1 ∧ ∀ j, j < i → rk (rankF (needsF fs X)) j ≠ -1 := by
        have hex : ∃ i, i < fs.length ∧ rk (rankF (needsF fs X)) i = -1 := by
          refine Classical.byContradiction fun h => hall fun i hi e => h ⟨i, hi, e⟩
        obtain ⟨i, hi, he⟩ := hex
        refine Nat.strongRecOn (motive := fun i => i < fs.length → rk (rankF (needsF fs X)) i = -1 → _) i (fun m ih hm9 he9 => ?_) hi he
        by_cases h : ∃ j, j < m ∧ rk (rankF (needsF fs X)) j = -1
        · obtain ⟨j, hj, e⟩ := h
          exact ih j hj (by omega) e
        · exact ⟨m, hm9, he9, fun j hj e => h ⟨j, hj, e⟩⟩
      have hok := needsF_ok fs X hm
      have hun := un_needs (rankF_fix (needsF fs X)) hbd
      have hit : ∀ k, itN (nxtF (needsF fs X) (rankF (needsF fs X))) at0 k < fs.length ∧ rk (rankF (needsF fs X)) (itN (nxtF (needsF fs X) (rankF (needsF fs X))) at0 k) = -1 := fun k => by
        induction k with
        | zero => exact ⟨hat, hau⟩
        | succ k ih =>
          obtain ⟨hk, e, hu⟩ := nxt_at (hun _ (by rw [hnl]; exact ih.1) ih.2)
          have h9 : nxtF (needsF fs X) (rankF (needsF fs X)) (itN (nxtF (needsF fs X) (rankF (needsF fs X))) at0 k) ∈ nd (needsF fs X) (itN (nxtF (needsF fs X) (rankF (needsF fs X))) at0 k) := by
            rw [← e]; exact List.getElem_mem hk
          have := (hok.2 _ (by rw [hnl]; exact ih.1)).2 _ h9
          exact ⟨by rwa [hnl] at this, hu⟩
      obtain ⟨k, j, hjk, hkn, he, hik⟩ := cyc_ex (f := nxtF (needsF fs X) (rankF (needsF fs X))) (a := at0) (n := fs.length) (fun i => (hit i).1)
      refine ⟨[], cycT (nmF fs) (nxtF (needsF fs X) (rankF (needsF fs X))) at0 k j, 10, by simp, by unfold cycT; rw [List.length_map, List.length_range]; omega, ?_, fun V hV => ?_⟩
      · refine (of_cyc fs X FA fc at0 w hm hf hX hT hcap h0 hat hau hfst (valid_inj h0)).mono fun e w' h => ?_
        obtain ⟨v, rfl, hc, hb⟩ := h
        exact ⟨_, v, rfl, IntsV.nil _, cyc_texts hjk he hik hc, hb⟩
      · refine (ranks_valid fs X FA fc V (by omega) (hf.below hV) (hX.below hV) hN h0).mono fun e w' h => ?_
        obtain ⟨_, h1, hb⟩ := h
        obtain ⟨v, rfl, hc⟩ := h1 at0 hat hau hfst
        exact ⟨_, v, rfl, IntsV.nil _, cyc_texts hjk he hik hc, hb⟩
  · refine ⟨[], [], checkF fs X, by simp, by simp, ?_, fun V hV => ?_⟩
    · refine (of_bad fs X FA fc w (by omega) hf hX hT hcap h0).mono fun e w' h => ?_
      obtain ⟨rfl, hb⟩ := h
      exact ⟨_, _, rfl, IntsV.nil _, TextsV.nil _, hb⟩
    · refine (refRanks_bad fs.length FA fc (checkF fs X) V h0 (FldC.refCheck_any fs X FA fc V (by omega) (hf.below hV) (hX.below hV) hN)).mono fun e w' h => ?_
      obtain ⟨rfl, hb⟩ := h
      exact ⟨_, _, rfl, IntsV.nil _, TextsV.nil _, hb⟩
end Go.Proofs.YthgcmficmodhiaaGreatDoor.RkY
