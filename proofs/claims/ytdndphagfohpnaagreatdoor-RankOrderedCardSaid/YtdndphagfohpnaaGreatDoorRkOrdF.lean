/- rank.Order of the fields of a form; slices.Contains of strings that the call itself holds. -/
import Derived.Test.YtdndphagfohpnaaGreatDoorRkOrd
import Derived.Test.YtdndphagfohpnaaGreatDoorRkKeep
namespace Go.Proofs.YtdndphagfohpnaaGreatDoor.RkF
open Go.RowKit
open ValM LexM NumM ExM NmM Kit ExL ExP ExN ExC RawV Within RawL RawN GenL Gen GenT GenV FrmM Frm FldP FldR FldC FrmT FrmO TyM Ty TyG NmG NmO NmI NmA NmT NmR RkM RkA RkB RkC RkD RkO RkS RkK RkT RkP
set_option linter.unusedVariables false

theorem containsS_hasB (L : List ByteArray) (s : ByteArray) : Lib.containsS L s = hasB L s := by
  rw [Bool.eq_iff_iff, Lib.containsS_iff, hasB_true]
theorem contains_any (L : List ByteArray) (s : ByteArray) (v : Value) (base : Nat) (w : World) (hl : L.length ≤ 1048576) (h : w.ownsRow base 9 1 v L.length (strV L)) :
    Calls Tryz.prog 17 #[v, .string s] w fun e w' => e = .returned (.bool (hasB L s)) ∧ w = w' := by
  rcases Nat.eq_zero_or_pos L.length with h0 | h0
  · obtain ⟨A, c, rfl, _⟩ := SRow.of_own h
    obtain rfl : L = [] := List.eq_nil_of_length_eq_zero h0
    exact (Tryz.slices_Contains_string_empty A c s w).mono fun e w' h => ⟨h.1, h.2.symm⟩
  · obtain ⟨A, c, rfl, hr⟩ := SRow.of_own h
    obtain ⟨g, rfl, _⟩ := hr 0 h0
    have := Tryz.slices_Contains_string g 0 L.length c L s w (Nat.le_refl _) (by omega) (fun j hj => by
      obtain ⟨g', e, hc⟩ := hr j hj
      injection e with e; injection e with e _ _
      subst e
      rw [Nat.zero_add, List.getD_eq_getElem?_getD, List.getElem?_eq_getElem hj]; exact hc)
    rw [List.take_length, containsS_hasB] at this
    exact this.mono fun e w' h => ⟨h.1, h.2.symm⟩
theorem form_order {rs : List Rw} {es : List FE} {P : Nat → Prop} {w : World} {FA : Option Addr} {fc : Nat} (h : es.map FE.v = formF rs) (hr : FRow P w FA es) (hcap : es.length ≤ fc ∧ fc ≤ maxLen) (hT : Tab w) :
    ∀ V : World, Below w.heap.size w V → Calls Tryz.prog 11 #[.slice FA es.length fc] V (OrderAt (rankF (needsF (es.map FE.fd) (xOf es))) es.length V) := fun V hV => by
  have hR := form_rank h hr hcap hT
  have hl : (es.map FE.fd).length = es.length := List.length_map _
  have h10 := hR.base.ten
  have h1 := (countV_bd rs).1
  have := of_ok (es.map FE.fd) (xOf es) FA fc V (by omega) ((frow_flds hr).below hV) ((form_forms h hr).below hV) (hT.below hV) (by rw [hl]; exact hcap) hR.base.check (fun i hi => (hR.ge i (by omega)).1)
  rw [hl] at this
  exact order_ok _ es.length FA fc V (by rw [needsF_len, hl]) (by rw [hR.len]; exact h1) (by omega) this
/-- In their order fields need those ahead alone. -/
theorem ordL_lt {r : List Int} {n : Nat} {o : List Nat} (h : OrdL r n o) (k : Nat) (hk : k < o.length) : o[k] < n := by
  have := h.perm.mem_iff.1 (List.getElem_mem hk)
  exact List.mem_range.1 this
theorem ordL_inj {r : List Int} {n : Nat} {o : List Nat} (h : OrdL r n o) (i j : Nat) (hi : i < o.length) (hj : j < o.length) (e : o[i] = o[j]) : i = j := by
  by_cases h1 : i < j
  · have := h.asc i j hi hj h1; rw [e] at this; omega
  · by_cases h2 : j < i
    · have := h.asc j i hj hi h2; rw [e] at this; omega
    · omega
theorem ordL_ahead {r : List Int} {n : Nat} {o : List Nat} (h : OrdL r n o) (k : Nat) (hk : k < o.length) (j : Nat) (hj : j < n) (hr : rk r j < rk r o[k]) : j ∈ o.take k := by
  obtain ⟨m, hm, e⟩ := List.getElem_of_mem (h.perm.mem_iff.2 (List.mem_range.2 hj))
  by_cases hmk : m < k
  · rw [← e]
    have : (o.take k)[m]'(by rw [List.length_take]; omega) = o[m] := List.getElem_take
    rw [← this]; exact List.getElem_mem _
  · exfalso
    by_cases h1 : m = k
    · subst h1; rw [e] at hr; omega
    · have := h.asc k m hk hm (by omega)
      rw [e] at this; omega
def nmA (es : List FE) (i : Nat) : ByteArray := (es[i]?.map FE.nm).getD ⟨#[]⟩
theorem nmA_at (es : List FE) (i : Nat) (h : i < es.length) : nmA es i = es[i].nm := by unfold nmA; rw [List.getElem?_eq_getElem h]; rfl
theorem zeroX_ofL : ofL zeroX = [] := by
  unfold ofL
  rw [if_neg]
  unfold zeroX
  rw [checkE_ok (by rw [nodes_mk, nodesL_nil]; decide) (by rw [depth_mk, depthL_nil]; decide), firstE_mk, preL_nil]
  decide
/-- What RankOrdered asks of the order. -/
theorem order_names {rs : List Rw} {es : List FE} {w : World} {FA : Option Addr} {fc : Nat} (hR : FormRank rs es FA fc w) {o : List Nat} (ho : OrdL (rankF (needsF (es.map FE.fd) (xOf es))) es.length o) (k : Nat) (hk : k < o.length) :
    hasB ((o.take k).map (nmA es)) (nmA es o[k]) = false ∧ (∀ s ∈ mkL (ofL (xOf es o[k])), hasB ((o.take k).map (nmA es)) s = true) := by
  have hB := hR.base
  have hl : (es.map FE.fd).length = es.length := List.length_map _
  have hi := ordL_lt ho k hk
  have hnm : ∀ i, i < es.length → nmA es i = nmK (plc rs i) := fun i hi => by
    have := hB.nm i (by omega)
    rw [List.getElem_map] at this
    rw [nmA_at es i hi]; exact this
  constructor
  · rw [Bool.eq_false_iff]
    intro hc
    have hm := (hasB_true _ _).1 hc
    obtain ⟨j, hj, e⟩ := List.mem_map.1 hm
    obtain ⟨m, hm2, e2⟩ := List.getElem_of_mem hj
    rw [List.length_take] at hm2
    rw [List.getElem_take] at e2
    have hjl := ordL_lt ho m (by omega)
    rw [e2] at hjl
    rw [hnm j hjl, hnm _ hi] at e
    have h10 := hB.ten
    have hlen := hR.len
    have p1 := plc_lt rs j (by omega)
    have p2 := plc_lt rs o[k] (by omega)
    have := plc_inj rs j o[k] (by omega) (by omega) (nmK_inj _ (by omega) _ (by omega) e)
    have := ordL_inj ho m k (by omega) hk (by omega)
    omega
  · intro s hs
    by_cases hkd : ((es.map FE.fd)[o[k]]'(by omega)).kind = 1
    · have hz := (hB.base o[k] (by omega))
      obtain ⟨f, hf, _, h2, _, h4, _⟩ := hz
      rw [h4, hf.inp (by rw [← h2]; exact hkd), zeroX_ofL] at hs
      simp [mkL] at hs
    · have hj : plN (es.map FE.fd) s ∈ nd (needsF (es.map FE.fd) (xOf es)) o[k] := by
        rw [needsF_nd _ _ _ (by omega)]
        unfold needF
        rw [dif_pos (by omega), if_neg hkd]
        exact List.mem_map.2 ⟨s, hs, rfl⟩
      obtain ⟨hjl, _⟩ := hB.needs o[k] (by omega) _ hj
      have hmx := rank_mx (ns := needsF (es.map FE.fd) (xOf es)) (fun i hi => (hR.ge i (by rw [needsF_len] at hi; omega)).1) (fun i hi j hj => by rw [needsF_len] at hi ⊢; exact (hB.needs i hi j hj).1) o[k] (by rw [needsF_len]; omega)
      have hlt := hmx.2.1 _ hj
      have ha := ordL_ahead ho k hk (plN (es.map FE.fd) s) (by omega) (by omega)
      -- the name at that place is s
      obtain ⟨c1, _, c3⟩ := hB.src o[k] (by omega) hkd
      have hs2 : s ∈ Ex.refs (xOf es o[k]) := by
        have e := bytes_refs (Ex.refs (xOf es o[k]))
        unfold ofL at hs
        rw [if_pos c1] at hs
        unfold mkL at hs e
        obtain ⟨b, hb, rfl⟩ := List.mem_map.1 hs
        rw [rise_mem] at hb
        rw [← e]
        exact List.mem_map.2 ⟨b, hb, rfl⟩
      obtain ⟨q, q1, q2, q3⟩ := c3 s hs2
      have e1 : plN (es.map FE.fd) s = q := by unfold plN; rw [q3, hB.place q q1, if_pos q1]
      rw [e1] at ha
      refine (hasB_true _ _).2 (List.mem_map.2 ⟨q, ha, ?_⟩)
      rw [hnm q (by omega), q3]
end Go.Proofs.YtdndphagfohpnaaGreatDoor.RkF
