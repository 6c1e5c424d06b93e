/- The facts that the statements' generator gives may be told, and none of them twice. -/
import Derived.Test.YtdlfhldboagbeaaFctMath
import Derived.Test.YtdlfhldboagbeaaInputs
import Derived.Test.YtdlfhldboagbeaaFrmOf
import Derived.Test.YtdlfhldboagbeaaFormTop
namespace Go.Proofs.Ytdlfhldboagbeaa.FcF
open Go.RowKit
open ValM LexM NumM ExM TyM EvM Kit ExL ExP RawV Within RawL RawN GenL FldP EvF FrmM FrmO FrmT FcM InpG
set_option linter.unusedVariables false

/-- Fields with names of their own. -/
structure Own (F : List GenL.Fd) : Prop where
  at_ : ∀ (j : Nat) (h : j < F.length), atF F F[j].nm = j
  ty : ∀ (j : Nat) (h : j < F.length), 1 ≤ F[j].ty ∧ F[j].ty ≤ 3
theorem own_base {rs : List Rw} {fs : List GenL.Fd} {X : Nat → Ex} {π : Nat → Nat} (h : OfBase rs fs X π) : Own fs :=
  ⟨fun j hj => by rw [h.nm j hj]; exact h.place j hj, fun j hj => by obtain ⟨_, _, a, b⟩ := h.kinds j hj; exact ⟨a, b⟩⟩
theorem vK_ty {t : Int} (h : 1 ≤ t ∧ t ≤ 3) : vK t = t := by
  unfold vK
  split
  · omega
  · split <;> omega
theorem told_in {F : List GenL.Fd} (h : Own F) (j : Nat) (hj : j < F.length) (hk : F[j].kind = 1) (r : Rw) : toldE F (fctOf F[j] r).nm (fctOf F[j] r).v.k (fctOf F[j] r).v.n (fctOf F[j] r).v.s = 0 ∧ keyZ (fctOf F[j] r) = true := by
  have ha := h.at_ j hj
  refine ⟨?_, rfl⟩
  show toldE F F[j].nm (vK F[j].ty) (vN F[j].ty r.k r.x) (vS F[j].ty r.t) = 0
  unfold toldE
  rw [dif_pos (by rw [ha]; exact hj)]
  simp only [ha]
  rw [if_pos hk, if_pos ⟨v_known _ _ _ _, vK_ty (h.ty j hj)⟩]
/-- Each fact is of a later field than the one ahead. -/
theorem inp_nd {F : List GenL.Fd} (h : Own F) (rs : List Rw) : ∀ k, k ≤ F.length → ((inpV rs F k).1.map Fc.nm).Nodup
  | 0, _ => by simp [inpV]
  | k + 1, hk => by
    have ih := inp_nd h rs k (by omega)
    by_cases hc : F[k].kind = 1 ∧ 0 < pick (nextV rs (inpV rs F k).2).k 4
    · rw [inpV_yes (by omega) hc.1 hc.2, List.map_append]
      refine List.pairwise_append.2 ⟨ih, List.pairwise_singleton _ _, fun a ha b hb => ?_⟩
      simp at hb
      subst hb
      obtain ⟨x, hx, rfl⟩ := List.mem_map.1 ha
      obtain ⟨j, hj, r, h1, h2, rfl⟩ := inpV_mem rs F k x hx
      intro e
      have e1 := h.at_ j hj
      have e2 := h.at_ k (by omega)
      have e3 : F[j].nm = F[k].nm := e
      rw [e3, e2] at e1
      omega
    · rw [inpV_no (by omega) hc]; exact ih
theorem met_nd {L : List Fc} (h : (L.map Fc.nm).Nodup) (i : Nat) (hi : i < L.length) : metB L i L[i].nm = false := by
  unfold metB
  rw [List.any_eq_false]
  intro x hx
  obtain ⟨j, hj, rfl⟩ := List.getElem_of_mem hx
  rw [List.length_take] at hj
  rw [List.getElem_take]
  have := List.pairwise_iff_getElem.1 h j i (by rw [List.length_map]; omega) (by rw [List.length_map]; exact hi) (by omega)
  rw [List.getElem_map, List.getElem_map] at this
  simpa using this
structure Good (F : List GenL.Fd) (L : List Fc) : Prop where
  told : ∀ x ∈ L, toldE F x.nm x.v.k x.v.n x.v.s = 0 ∧ keyZ x = true
  nd : (L.map Fc.nm).Nodup
theorem good_in {F : List GenL.Fd} (h : Own F) (rs : List Rw) : Good F (inpV rs F F.length).1 :=
  ⟨fun x hx => by
    obtain ⟨j, hj, r, _, h2, rfl⟩ := inpV_mem rs F _ x hx
    exact told_in h j hj h2 r, inp_nd h rs _ (Nat.le_refl _)⟩
theorem good_facts {F : List GenL.Fd} {L : List Fc} (h : Good F L) : factsE F L = 0 := facts_all fun j hj => by
  unfold factE
  obtain ⟨h1, h2⟩ := h.told L[j] (List.getElem_mem hj)
  rw [dif_pos hj, if_pos h1, if_pos h2, met_nd h.nd j hj, if_neg (by decide)]
theorem good_twice {F : List GenL.Fd} {L : List Fc} (h : Good F L) (i : Nat) (hi : i < L.length) : factsE F (L ++ [L[i]]) = 6 := by
  have h0 : ∀ j, j < L.length → factE F (L ++ [L[i]]) j = 0 := fun j hj => by
    have e : (L ++ [L[i]])[j]'(by simp; omega) = L[j] := List.getElem_append_left hj
    have hm : metB (L ++ [L[i]]) j L[j].nm = metB L j L[j].nm := by unfold metB; rw [List.take_append_of_le_length (by omega)]
    unfold factE
    obtain ⟨h1, h2⟩ := h.told L[j] (List.getElem_mem hj)
    rw [dif_pos (show j < (L ++ [L[i]]).length by simp; omega), e, if_pos h1, if_pos h2, hm, met_nd h.nd j hj, if_neg (by decide)]
  have h6 : factE F (L ++ [L[i]]) L.length = 6 := by
    have e : (L ++ [L[i]])[L.length]'(by simp) = L[i] := by simp
    unfold factE
    obtain ⟨h1, h2⟩ := h.told L[i] (List.getElem_mem hi)
    rw [dif_pos (show L.length < (L ++ [L[i]]).length by simp), e, if_pos h1, if_pos h2, if_pos]
    unfold metB
    rw [List.take_append_of_le_length (Nat.le_refl _), List.take_length, List.any_eq_true]
    exact ⟨L[i], List.getElem_mem hi, by simp⟩
  rw [facts_stop (k := L.length) (by simp) h0 (by rw [h6]; decide), h6]
theorem one_fact {F : List GenL.Fd} {x : Fc} {e : Int} (h : toldE F x.nm x.v.k x.v.n x.v.s = e) (h0 : e ≠ 0) : factsE F [x] = e := by
  have hf : factE F [x] 0 = e := by
    unfold factE
    rw [dif_pos (show 0 < [x].length by simp)]
    simp only [List.getElem_cons_zero]
    rw [h, if_neg h0]
  rw [facts_stop (L := [x]) (k := 0) (by simp) (fun j hj => by omega) (by rw [hf]; exact h0), hf]
/-- The small form: b is a formula. -/
theorem small_b {es : List FE} (h : es.map FE.v = smallV) : factsE (es.map FE.fd) [⟨⟨#[98]⟩, 0, 0, ⟨#[]⟩, ⟨1, 0, ⟨#[]⟩⟩⟩] = 2 := by
  have hl := small_len h
  match es, h, hl with
  | [a, b, c], h, _ =>
    simp only [List.map_cons, List.map_nil, smallV, List.cons.injEq, and_true] at h
    obtain ⟨h1, h2, h3⟩ := h
    have e1 : a.fd.nm = ⟨#[98]⟩ := congrArg FV.nm h1
    have k1 : a.fd.kind = 2 := congrArg FV.kind h1
    have hat : atF [a.fd, b.fd, c.fd] ⟨#[98]⟩ = 0 := by unfold atF; rw [if_pos e1]
    have ht : toldE [a.fd, b.fd, c.fd] ⟨#[98]⟩ 1 0 ⟨#[]⟩ = 2 := by
      unfold toldE
      rw [dif_pos (show atF [a.fd, b.fd, c.fd] ⟨#[98]⟩ < [a.fd, b.fd, c.fd].length from (by rw [hat]; exact Nat.succ_pos _))]
      simp only [hat, List.getElem_cons_zero]
      rw [k1, if_neg (by decide)]
    simp only [List.map_cons, List.map_nil]
    exact one_fact ht (by decide)
theorem small_nm {es : List FE} (h : es.map FE.v = smallV) (k : Nat) (hk : k < (es.map FE.fd).length) : (es.map FE.fd)[k].nm.size ≤ maxLen := by
  have hl := small_len h
  rw [List.length_map] at hk
  rw [List.getElem_map]
  have e : es[k].v = smallV[k]'(by show k < 3; omega) := by
    have : (es.map FE.v)[k]'(by simpa using hk) = smallV[k]'(by show k < 3; omega) := by simp only [h]
    rw [← this, List.getElem_map]
  have hn : es[k].nm = (smallV[k]'(by show k < 3; omega)).nm := congrArg FV.nm e
  have hall : ∀ f ∈ smallV, f.nm.size ≤ 4 := by decide
  show es[k].nm.size ≤ _
  rw [hn]
  have := hall _ (List.getElem_mem (l := smallV) (n := k) (by show k < 3; omega))
  unfold maxLen; omega
end Go.Proofs.Ytdlfhldboagbeaa.FcF
