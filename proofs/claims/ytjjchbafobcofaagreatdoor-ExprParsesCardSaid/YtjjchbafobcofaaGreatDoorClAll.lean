/- The reference's ahead and formula, at any tokens of a text. -/
import Derived.Test.YtjjchbafobcofaaGreatDoorClTop
import Derived.Test.YtjjchbafobcofaaGreatDoorPbAll
namespace Go.Proofs.YtjjchbafobcofaaGreatDoor.Cl
open Go.RowKit
open LexM ExM Kit ExL ExP PsM PsT NmC Ps PsR ClM PbN PbP PbT PrM
set_option linter.unusedVariables false

structure Toks (L : List Tk) : Prop where
  quo : ∀ t ∈ L, t.kind = 3 → ∃ u, t.s = 34 :: u
  num : ∀ t ∈ L, t.kind = 1 → ∃ c u, t.s = c :: u ∧ digB c = true
  kd : ∀ t ∈ L, PsLx.Kd t
  sm : ∀ t ∈ L, t.s.length ≤ 1000 ∧ t.t.length ≤ 1000
  wt : ∀ t ∈ L, Wt t
theorem num_head (l : List UInt8) (p : Nat) : ∀ ts, tokens l p = .ok ts → ∀ t ∈ ts, t.kind = 1 → ∃ c u, t.s = c :: u ∧ digB c = true := by
  refine tokens_ind (M := fun l p r => ∀ ts, r = .ok ts → ∀ t ∈ ts, t.kind = 1 → ∃ c u, t.s = c :: u ∧ digB c = true) ?_ ?_ ?_ ?_ l.length l p (Nat.le_refl _)
  · intro p ts h t ht; injection h with h; subst h; cases ht
  · intro r p ih ts h t ht; exact ih ts h t ht
  · intro c r p e _ _ ts h; cases h
  · intro c r p T hc hT ih ts h t ht hk
    cases hr : tokens ((c :: r).drop T.len) (p + T.len) with
    | bad q e => rw [hr] at h; cases h
    | ok us =>
      rw [hr] at h
      injection h with h; subst h
      rcases List.mem_cons.1 ht with rfl | ht
      · have hl := first_len hT
        obtain ⟨k, hkk⟩ : ∃ k, T.len = k + 1 := ⟨T.len - 1, by omega⟩
        have hs : (mk T p (c :: r)).s = c :: r.take k := by show (c :: r).take T.len = _; rw [hkk, List.take_succ_cons]
        have hk' : T.kind = 1 := hk
        rw [first_cons] at hT
        split at hT
        · rename_i hd; exact ⟨c, _, hs, hd⟩
        · split at hT
          · obtain ⟨h2, _⟩ := wordT_tok hT; rw [h2] at hk'; cases hk'
          · split at hT
            · obtain ⟨m, u, _, _, h2⟩ := quoT_tok hT; rw [h2] at hk'; cases hk'
            · unfold sgnT at hT
              split at hT
              · injection hT with hT; subst hT; cases hk'
              · split at hT
                · injection hT with hT; subst hT; cases hk'
                · cases hT
      · exact ih us hr t ht hk
theorem toks_of {l : List UInt8} {ts : List Tk} (hl : l.length ≤ 160) (h : tokens l 0 = .ok ts) : Toks ts :=
  ⟨quo_head l 0 ts h, num_head l 0 ts h, fun t ht => (PsLx.tok_facts l 0 ts h t ht).2.2.2, fun t ht => by obtain ⟨_, a, b, _⟩ := PsLx.tok_facts l 0 ts h t ht; exact ⟨by omega, by omega⟩, (tok_worth l 0 ts h).1⟩
theorem plain_of {s : List UInt8} (h0 : s ≠ [45]) (h1 : s ≠ [110, 111, 116]) (h2 : s ≠ [40]) (h3 : s ≠ [105, 102]) (h4 : s ≠ [108, 101, 110]) (h5 : s ≠ trueB) (h6 : s ≠ falseB) : Plain ⟨s.toArray⟩ := by
  refine ⟨?_, ?_, ?_, ?_, ?_, ?_, ?_⟩
  all_goals rw [ByteArray.toList_eq]
  all_goals exact beq_eq_false_iff_ne.2 (by assumption)
theorem at5 {s : List UInt8} (h0 : s ≠ [45]) (h1 : s ≠ [110, 111, 116]) : PsM.opAt 5 s = none := by
  cases h : PsM.opAt 5 s with
  | none => rfl
  | some op =>
    exfalso
    obtain ⟨h3, h19, hp, hs⟩ := PbN.opAt_some h
    obtain g | g | g | g | g | g | g | g | g | g | g | g | g | g | g | g := opsN h3 h19
    all_goals subst g
    all_goals first | (exact h0 hs.symm) | (exact h1 hs.symm) | (revert hp; decide)
theorem at6 {s : List UInt8} (h0 : s ≠ [105, 102]) (h1 : s ≠ [108, 101, 110]) : PsM.opAt 6 s = none := by
  cases h : PsM.opAt 6 s with
  | none => rfl
  | some op =>
    exfalso
    obtain ⟨h3, h19, hp, hs⟩ := PbN.opAt_some h
    obtain g | g | g | g | g | g | g | g | g | g | g | g | g | g | g | g := opsN h3 h19
    all_goals subst g
    all_goals first | (exact h0 hs.symm) | (exact h1 hs.symm) | (revert hp; decide)

section
variable {w0 : World} {P : Nat} {A : Option Addr} {c : Nat} {L : List Tk} {w : World} {k : Nat}
theorem leaf_ok {w' : World} {e : Ending} {d : Nd} (h : e = .returned (.agg #[.int .i64 d.op, .int .i64 d.k, .int .i64 d.n, .string d.s, .string d.nm, .slice none 0 0]) ∧ CSt w0 P A c L w' (k + 1) false ∧ w.grownBy w' (some P)) (h1 : d.s.size ≤ maxLen) (h2 : d.nm.size ≤ maxLen) : EndsC w0 P A c L w k (.ok [.mk d []] (L.drop (k + 1))) e w' := by
  obtain ⟨rfl, hS, hg⟩ := h
  exact ⟨d, none, 0, 0, k + 1, rfl, isP_mk.2 ⟨rfl, rfl, ⟨Nat.zero_le _, h1, h2⟩, fun j hj => absurd hj (by simp)⟩, rfl, Nat.le_succ _, hS, hg⟩
theorem sz_arr (l : List UInt8) (h : l.length ≤ 1000) : (⟨l.toArray⟩ : ByteArray).size ≤ maxLen := by
  rw [← ValM.len_size]; show l.toArray.toList.length ≤ _; simp; unfold maxLen; omega

set_option maxHeartbeats 4000000 in
theorem ahead_any (hE : CEnv w0 P A L) (hT : Toks L) (hS : CSt w0 P A c L w k false) (o : Out) (ho : Ev (.form 5) (L.drop k) o)
    (hA : ∀ W o', k < L.length → Ev (.form 5) (L.drop (k + 1)) o' → CSt w0 P A c L W (k + 1) false → Calls Tryz.prog 25 #[.pointer (some ⟨P, 0, none⟩)] W (EndsC w0 P A c L W (k + 1) o'))
    (hF : ∀ k' o' W, k < k' → k' ≤ L.length → Ev (.form 0) (L.drop k') o' → CSt w0 P A c L W k' false → Calls Tryz.prog 11 #[.pointer (some ⟨P, 0, none⟩), .int .i64 1] W (EndsC w0 P A c L W k' o')) :
    Calls Tryz.prog 25 #[.pointer (some ⟨P, 0, none⟩)] w (EndsC w0 P A c L w k o) := by
  cases hd : L.drop k with
  | nil =>
    have hk := drop_nil hd hS.le
    rw [hd] at ho
    obtain rfl := ho.unique ev_end
    have := ahead_end hE hS hk
    rw [hd] at this
    exact this
  | cons t r =>
    obtain ⟨hk, ht, hr⟩ := drop_cons hd
    have hm : t ∈ L := by rw [ht]; exact List.getElem_mem _
    rw [hd] at ho
    have hqd : ∀ j, ∀ t ∈ L.drop j, t.kind = 3 → ∃ u, t.s = 34 :: u := fun j t ht => hT.quo t (List.mem_of_mem_drop ht)
    have hkey := fun W => LexB.refKey_any ⟨L[k].s.toArray⟩ W
    obtain ⟨hsm1, hsm2⟩ := hT.sm t hm
    by_cases h3 : t.kind = 3
    · obtain ⟨u, hu⟩ := hT.quo t hm h3
      have hnx : nextS (L.drop k) = [] := by rw [hd]; exact if_pos h3
      have hl : leafN t = some (.mk ⟨1, t.vk, t.n, ⟨t.t.toArray⟩, ⟨#[]⟩⟩ []) := by unfold leafN; rw [if_pos (.inr h3)]
      have he := ho.unique (ev_leaf (quo_none hu 5) (by rw [hu]; intro g; injection g with g _; exact absurd g (by decide)) (quo_none hu 6) hl)
      subst he
      refine (ahead_const hE hS ⟨#[]⟩ (by rw [hnx]) (plain_of (s := []) (by decide) (by decide) (by decide) (by decide) (by decide) (by decide) (by decide)) hk 3 (by rw [← ht]; exact h3) (.inr rfl)).mono fun e w' h => ?_
      rw [← ht] at h
      rw [hr]
      exact leaf_ok (d := ⟨1, t.vk, t.n, ⟨t.t.toArray⟩, ⟨#[]⟩⟩) h (sz_arr _ hsm2) (Nat.zero_le _)
    have hnx : nextS (L.drop k) = t.s := by rw [hd]; exact if_neg h3
    by_cases s0 : t.s = [45]
    · obtain ⟨o', ho', _⟩ := form_ex 5 (Nat.le_refl _) (L.drop (k + 1))
      obtain rfl := ho.unique (ev_prefix (op := 3) (by rw [s0]; decide) (by rw [hr]; exact ho'))
      exact ahead_sign hE hS 3 ⟨#[45]⟩ (by rw [hnx, s0]) (.inl ⟨rfl, rfl⟩) o' (fun W hW => hA W o' hk ho' hW)
    by_cases s1 : t.s = [110, 111, 116]
    · obtain ⟨o', ho', _⟩ := form_ex 5 (Nat.le_refl _) (L.drop (k + 1))
      obtain rfl := ho.unique (ev_prefix (op := 4) (by rw [s1]; decide) (by rw [hr]; exact ho'))
      exact ahead_sign hE hS 4 ⟨#[110, 111, 116]⟩ (by rw [hnx, s1]) (.inr ⟨rfl, rfl⟩) o' (fun W hW => hA W o' hk ho' hW)
    have a5 := at5 s0 s1
    by_cases s2 : t.s = [40]
    · obtain ⟨o', ho', hsh⟩ := form_ex 0 (by omega) (L.drop (k + 1))
      have hsub : ∀ x r', o' = .ok [x] r' → ∀ t ∈ r', t ∈ L.drop (k + 1) := fun x r' e => by
        subst e
        obtain ⟨_, f, hf⟩ := ho'
        exact (run_worth f (.form 0) _ _ _ (Nat.zero_le 5) (fun u hu => hT.wt u (List.mem_of_mem_drop hu)) (hf f (Nat.le_refl _))).1
      have hl := oP_list (hqd (k + 1)) ho' hsh hsub
      obtain rfl := ho.unique (ev_paren a5 s2 (by rw [hr]; exact hl))
      exact ahead_paren hE hS (by rw [hnx, s2]) o' (fun W hW => hF (k + 1) o' W (by omega) hk ho' hW)
    by_cases s3 : t.s = [105, 102]
    · obtain ⟨o1, h1, h2⟩ : ∃ o1, ((isNext [40] (L.drop (k + 1)) = true → Ev (.list 3 []) (L.drop (k + 2)) o1) ∧ (isNext [40] (L.drop (k + 1)) = false → o1 = .bad (L.drop (k + 1)))) ∧ o = wrap 17 o1 := by
        cases hb : isNext [40] (L.drop (k + 1)) with
        | true =>
          obtain ⟨o1, h1⟩ := list_ex 3 [] (L.drop (k + 2))
          refine ⟨o1, ⟨fun _ => h1, fun e => Bool.noConfusion e⟩, ho.unique ?_⟩
          have := ev_call (t := t) (r := r) (op := 17) (o := o1) a5 s2 (by rw [s3]; decide) (by rw [hr]; exact hb) (by rw [hr, List.tail_drop]; exact h1)
          exact this
        | false =>
          refine ⟨.bad (L.drop (k + 1)), ⟨fun e => Bool.noConfusion e, fun _ => rfl⟩, ho.unique ?_⟩
          have := ev_call_bad (t := t) (r := r) (op := 17) a5 s2 (by rw [s3]; decide) (by rw [hr]; exact hb)
          rw [hr] at this ⊢; exact this
      rw [h2]
      exact ahead_if hE hT.quo hS (by rw [hnx, s3]) o1 h1 hF
    by_cases s4 : t.s = [108, 101, 110]
    · obtain ⟨o1, h1, h2⟩ : ∃ o1, ((isNext [40] (L.drop (k + 1)) = true → Ev (.list 1 []) (L.drop (k + 2)) o1) ∧ (isNext [40] (L.drop (k + 1)) = false → o1 = .bad (L.drop (k + 1)))) ∧ o = wrap 18 o1 := by
        cases hb : isNext [40] (L.drop (k + 1)) with
        | true =>
          obtain ⟨o1, h1⟩ := list_ex 1 [] (L.drop (k + 2))
          refine ⟨o1, ⟨fun _ => h1, fun e => Bool.noConfusion e⟩, ho.unique ?_⟩
          have := ev_call (t := t) (r := r) (op := 18) (o := o1) a5 s2 (by rw [s4]; decide) (by rw [hr]; exact hb) (by rw [hr, List.tail_drop]; exact h1)
          exact this
        | false =>
          refine ⟨.bad (L.drop (k + 1)), ⟨fun e => Bool.noConfusion e, fun _ => rfl⟩, ho.unique ?_⟩
          have := ev_call_bad (t := t) (r := r) (op := 18) a5 s2 (by rw [s4]; decide) (by rw [hr]; exact hb)
          rw [hr] at this ⊢; exact this
      rw [h2]
      exact ahead_len hE hT.quo hS (by rw [hnx, s4]) o1 h1 hF
    have a6 := at6 s3 s4
    have nk1 : t.kind = 1 → t.s ≠ trueB ∧ t.s ≠ falseB := fun h1 => by
      obtain ⟨c', u, e1, e2⟩ := hT.num t hm h1
      rw [e1]
      exact ⟨fun g => by injection g with g _; subst g; exact absurd e2 (by decide), fun g => by injection g with g _; subst g; exact absurd e2 (by decide)⟩
    by_cases s5 : t.s = trueB
    · have hl : leafN t = some (.mk ⟨1, 2, 1, ⟨#[]⟩, ⟨#[]⟩⟩ []) := by unfold leafN; rw [if_neg (fun g => g.elim (fun g => (nk1 g).1 s5) h3), if_pos s5]
      obtain rfl := ho.unique (ev_leaf a5 s2 a6 hl)
      refine (ahead_true hE hS (by rw [hnx, s5])).mono fun e w' h => ?_
      rw [hr]
      exact leaf_ok (d := ⟨1, 2, 1, ⟨#[]⟩, ⟨#[]⟩⟩) h (by decide) (by decide)
    by_cases s6 : t.s = falseB
    · have hl : leafN t = some (.mk ⟨1, 2, 0, ⟨#[]⟩, ⟨#[]⟩⟩ []) := by unfold leafN; rw [if_neg (fun g => g.elim (fun g => (nk1 g).2 s6) h3), if_neg s5, if_pos s6]
      obtain rfl := ho.unique (ev_leaf a5 s2 a6 hl)
      refine (ahead_false hE hS (by rw [hnx, s6])).mono fun e w' h => ?_
      rw [hr]
      exact leaf_ok (d := ⟨1, 2, 0, ⟨#[]⟩, ⟨#[]⟩⟩) h (by decide) (by decide)
    have hpl : Plain ⟨t.s.toArray⟩ := plain_of s0 s1 s2 s3 s4 s5 s6
    have hS0 : (⟨(nextS (L.drop k)).toArray⟩ : ByteArray) = ⟨t.s.toArray⟩ := by rw [hnx]
    by_cases h1 : t.kind = 1
    · have hl : leafN t = some (.mk ⟨1, t.vk, t.n, ⟨t.t.toArray⟩, ⟨#[]⟩⟩ []) := by unfold leafN; rw [if_pos (.inl h1)]
      obtain rfl := ho.unique (ev_leaf a5 s2 a6 hl)
      refine (ahead_const hE hS _ hS0 hpl hk 1 (by rw [← ht]; exact h1) (.inl rfl)).mono fun e w' h => ?_
      rw [← ht] at h
      rw [hr]
      exact leaf_ok (d := ⟨1, t.vk, t.n, ⟨t.t.toArray⟩, ⟨#[]⟩⟩) h (sz_arr _ hsm2) (Nat.zero_le _)
    by_cases h2 : t.kind = 2
    · cases hb : keyB t.s with
      | true =>
        have hl : leafN t = none := by unfold leafN; rw [if_neg (fun g => g.elim h1 h3), if_neg s5, if_neg s6, if_neg (fun g => by rw [hb] at g; exact Bool.noConfusion g.2)]
        obtain rfl := ho.unique (ev_leaf_bad a5 s2 a6 hl)
        have := ahead_key hE hS _ hS0 hpl hk (by rw [← ht]; exact h2) (fun W => by have := hkey W; rw [← ht] at this ⊢; rw [show (⟨t.s.toArray⟩ : ByteArray).data.toList = t.s from rfl, hb] at this; exact this)
        rw [hd] at this
        exact this
      | false =>
        have hl : leafN t = some (.mk ⟨2, 0, 0, ⟨#[]⟩, ⟨t.s.toArray⟩⟩ []) := by unfold leafN; rw [if_neg (fun g => g.elim h1 h3), if_neg s5, if_neg s6, if_pos ⟨h2, hb⟩]
        obtain rfl := ho.unique (ev_leaf a5 s2 a6 hl)
        refine (ahead_name hE hS _ hS0 hpl hk (by rw [← ht]; exact h2) (fun W => by have := hkey W; rw [← ht] at this ⊢; rw [show (⟨t.s.toArray⟩ : ByteArray).data.toList = t.s from rfl, hb] at this; exact this)).mono fun e w' h => ?_
        rw [← ht] at h
        rw [hr]
        exact leaf_ok (d := ⟨2, 0, 0, ⟨#[]⟩, ⟨t.s.toArray⟩⟩) h (Nat.zero_le _) (sz_arr _ hsm1)
    · have hl : leafN t = none := by unfold leafN; rw [if_neg (fun g => g.elim h1 h3), if_neg s5, if_neg s6, if_neg (fun g => h2 g.1)]
      obtain rfl := ho.unique (ev_leaf_bad a5 s2 a6 hl)
      have := ahead_none hE hS _ hS0 hpl hk t.kind (by rw [← ht]) h1 h2 h3
      rw [hd] at this
      exact this

/-- Both, from any place on. -/
theorem climb_all (hE : CEnv w0 P A L) (hT : Toks L) : ∀ (n k : Nat), L.length - k ≤ n → k ≤ L.length →
    (∀ W o, Ev (.form 5) (L.drop k) o → CSt w0 P A c L W k false → Calls Tryz.prog 25 #[.pointer (some ⟨P, 0, none⟩)] W (EndsC w0 P A c L W k o)) ∧
    (∀ q W o, q ≤ 5 → Ev (.form q) (L.drop k) o → CSt w0 P A c L W k false → Calls Tryz.prog 11 #[.pointer (some ⟨P, 0, none⟩), .int .i64 ((q : Int) + 1)] W (EndsC w0 P A c L W k o)) := by
  intro n
  induction n using Nat.strongRecOn with
  | _ n ih =>
    intro k hn hk
    have hlow : ∀ k', k < k' → k' ≤ L.length → _ := fun k' h1 h2 => ih (L.length - k') (by omega) k' (Nat.le_refl _) h2
    have hA : ∀ W o, Ev (.form 5) (L.drop k) o → CSt w0 P A c L W k false → Calls Tryz.prog 25 #[.pointer (some ⟨P, 0, none⟩)] W (EndsC w0 P A c L W k o) := fun W o ho hS =>
      ahead_any hE hT hS o ho (fun W' o' hkl ho' hS' => (hlow (k + 1) (by omega) hkl).1 W' o' ho' hS') (fun k' o' W' h1 h2 ho' hS' => (hlow k' h1 h2).2 0 W' o' (by omega) ho' hS')
    exact ⟨hA, fun q W o hq ho hS => formula_any hE hT.quo hS q hq o ho (fun W' o5 h5 hS' => hA W' o5 h5 hS') (fun k' q' o' W' h1 h2 hq' ho' hS' => (hlow k' h1 h2).2 q' W' o' hq' ho' hS')⟩
end
end Go.Proofs.YtjjchbafobcofaaGreatDoor.Cl
