/- A form's fields with a ring of fields behind them: they may be, the ring's have no rank, and from its first field the path goes round it. -/
import Derived.Test.YtdndphagfohpnaaDoorRkForm
import Derived.Test.YtdndphagfohpnaaDoorCyc
namespace Go.Proofs.YtdndphagfohpnaaDoor.RngO
open Go.RowKit
open ValM LexM NumM ExM NmM Kit ExL ExP ExN ExC RawV Within RawL RawN GenL Gen GenT GenV FrmM Frm FldP FldR FldC FrmT FrmO TyM Ty TyG NmG NmO NmI NmT RkM RkD CycO
set_option linter.unusedVariables false

def rnm : Nat → ByteArray
  | 0 => ⟨#[114, 49]⟩
  | 1 => ⟨#[114, 50]⟩
  | 2 => ⟨#[114, 51]⟩
  | _ => ⟨#[114, 52]⟩
def refX (s : ByteArray) : Ex := .mk ⟨2, 0, 0, ⟨#[]⟩, s⟩ []
theorem rnm_inj : ∀ i, i < 4 → ∀ j, j < 4 → rnm i = rnm j → i = j := by decide
theorem rnm_nmK : ∀ i, i < 10 → ∀ j, j < 4 → nmK i ≠ rnm j := by decide
theorem rnm_name : ∀ j, j < 4 → LexB.nameE (rnm j).data.toList = 0 := by decide
theorem ref_ok : ∀ j, j < 4 → (refX (rnm j)).checkE = 0 := by decide
theorem ref_of : ∀ j, j < 4 → mkL (ofL (refX (rnm j))) = [rnm j] := by decide
theorem ref_ty (G : List (ByteArray × Int)) (s : ByteArray) (t : Int) (h : fieldT G s = (t, 0)) : Ex.ty G (refX s) = (t, 0) := by
  unfold refX
  rw [ty_mk, tyL_nil]
  unfold tyN
  rw [if_neg (show ¬ (2 : Int) = 1 by decide), if_pos rfl]
  exact h
structure RingF (rs : List Rw) (fs0 : List GenL.Fd) (X0 : Nat → Ex) (π : Nat → Nat) (m : Nat) (fs : List GenL.Fd) (X : Nat → Ex) : Prop where
  base : OfBase rs fs0 X0 π
  m1 : 1 ≤ m
  m4 : m ≤ 4
  len : fs.length = fs0.length + m
  lo : ∀ (i : Nat) (h0 : i < fs0.length) (h : i < fs.length), fs[i] = fs0[i] ∧ X i = X0 i
  hi : ∀ (i : Nat) (hi : i < m) (h : fs0.length + i < fs.length), fs[fs0.length + i].nm = rnm i ∧ fs[fs0.length + i].kind = 2 ∧ fs[fs0.length + i].ty = 1 ∧ X (fs0.length + i) = refX (rnm ((i + 1) % m))
namespace RingF
variable {rs : List Rw} {fs0 fs : List GenL.Fd} {X0 X : Nat → Ex} {π : Nat → Nat} {m : Nat}
theorem ten (h : RingF rs fs0 X0 π m fs X) : fs0.length ≤ 10 ∧ fs.length ≤ 14 := by
  have := h.base.ten
  have := h.len
  have := h.m4
  omega
theorem nmLo (h : RingF rs fs0 X0 π m fs X) (i : Nat) (h0 : i < fs0.length) (hi : i < fs.length) : fs[i].nm = nmK (π i) := by
  rw [(h.lo i h0 hi).1]; exact h.base.nm i h0
theorem nmHi (h : RingF rs fs0 X0 π m fs X) (j : Nat) (h0 : ¬ j < fs0.length) (hj : j < fs.length) : ∃ i, i < m ∧ j = fs0.length + i ∧ fs[j].nm = rnm i := by
  have hl := h.len
  have e : j = fs0.length + (j - fs0.length) := by omega
  refine ⟨j - fs0.length, by omega, e, ?_⟩
  have := (h.hi (j - fs0.length) (by omega) (by omega)).1
  simp only [← e] at this
  exact this
theorem inj (h : RingF rs fs0 X0 π m fs X) (i j : Nat) (hi : i < fs.length) (hj : j < fs.length) (e : fs[i].nm = fs[j].nm) : i = j := by
  have h10 := h.ten
  have h4 := h.m4
  by_cases h1 : i < fs0.length
  · have a := h.base.lt i h1
    by_cases h2 : j < fs0.length
    · have b := h.base.lt j h2
      rw [h.nmLo i h1 hi, h.nmLo j h2 hj] at e
      exact h.base.inj i j h1 h2 (nmK_inj _ (by omega) _ (by omega) e)
    · obtain ⟨q, hq, rfl, e2⟩ := h.nmHi j h2 hj
      rw [h.nmLo i h1 hi, e2] at e
      exact absurd e (rnm_nmK _ (by omega) _ (by omega))
  · obtain ⟨p, hp, rfl, e1⟩ := h.nmHi i h1 hi
    by_cases h2 : j < fs0.length
    · have b := h.base.lt j h2
      rw [h.nmLo j h2 hj, e1] at e
      exact absurd e.symm (rnm_nmK _ (by omega) _ (by omega))
    · obtain ⟨q, hq, rfl, e2⟩ := h.nmHi j h2 hj
      rw [e1, e2] at e
      rw [rnm_inj p (by omega) q (by omega) e]
theorem place (h : RingF rs fs0 X0 π m fs X) (i : Nat) (hi : i < fs.length) (s : ByteArray) (e : fs[i].nm = s) : atF fs s = i :=
  atF_eq _ _ i hi (fun j hj hji e2 => by have := h.inj j i hj hi (e2.trans e.symm); omega) e
theorem fty (h : RingF rs fs0 X0 π m fs X) (i : Nat) (hi : i < fs.length) (s : ByteArray) (e : fs[i].nm = s) : fieldT (fts fs) s = (fs[i].ty, 0) := by
  rw [fieldT_fts (fs := fs) (s := s) hi (fun j hj hji e2 => by have := h.inj j i hj hi (e2.trans e.symm); omega) e]
theorem nxt_lt (h : RingF rs fs0 X0 π m fs X) (i : Nat) : (i + 1) % m < m := Nat.mod_lt _ (by have := h.m1; omega)
/-- They may be. -/
theorem check (h : RingF rs fs0 X0 π m fs X) : checkF fs X = 0 := by
  have h10 := h.ten
  have h4 := h.m4
  have hl := h.len
  have hr : ∀ (i : Nat) (hi : i < fs.length), rightE fs[i] (X i) = 0 := fun i hi => by
    by_cases h0 : i < fs0.length
    · obtain ⟨e1, e2⟩ := h.lo i h0 hi
      rw [e1, e2]
      obtain ⟨f, hf, g1, g2, g3, g4, g5⟩ := h.base.base i h0
      obtain ⟨a, b, c, d⟩ := h.base.kinds i h0
      have hn : LexB.nameE fs0[i].nm.data.toList = 0 := by rw [h.base.nm i h0]; exact (nmK_ok _ (by have := h.base.lt i h0; omega)).2
      unfold rightE
      rw [if_neg (fun g => g hn), if_pos ⟨isT_iff.2 ⟨a, b⟩, isT_iff.2 ⟨c, d⟩⟩]
      by_cases hk : fs0[i].kind = 1
      · rw [if_pos hk, if_pos (g5 (by rw [g4]; exact hf.inp (by rw [← g2]; exact hk)))]
      · rw [if_neg hk]; exact (h.base.src i h0 hk).1
    · obtain ⟨q, hq, rfl, e⟩ := h.nmHi i h0 hi
      obtain ⟨_, e2, e3, e4⟩ := h.hi q hq hi
      unfold rightE
      rw [e, if_neg (fun g => g (rnm_name q (by omega))), if_pos ⟨isT_iff.2 ⟨by omega, by omega⟩, isT_iff.2 ⟨by omega, by omega⟩⟩, if_neg (by omega), e4]
      exact ref_ok _ (by have := h.nxt_lt q; omega)
  have h1 : ∀ j, j < fs.length → ownE fs X j = 0 := fun j hj => by
    unfold ownE
    rw [dif_pos hj, if_pos (hr j hj), h.place j hj _ rfl, if_neg (Nat.lt_irrefl _)]
  have h2 : ∀ j, j < fs.length → typE fs X j = 0 := fun j hj => by
    unfold typE srcE
    rw [dif_pos hj]
    by_cases h0 : j < fs0.length
    · obtain ⟨e1, e2⟩ := h.lo j h0 hj
      rw [e1, e2]
      by_cases hk : fs0[j].kind = 1
      · rw [if_neg (by omega), if_neg (by omega)]
      · obtain ⟨c1, _, _⟩ := h.base.src j h0 hk
        obtain ⟨k, c2, c3⟩ : ∃ k, Ex.ty (fts fs) (X0 j) = (k, 0) ∧ (fs0[j].kind = 2 → k = fs0[j].ty) := by
          obtain ⟨f, hf, _, g2, g3, g4, _⟩ := h.base.base j h0
          have ha := h.base.ahead h0
          have hG : ∀ f ∈ aheadF rs (π j), fieldT (fts fs) f.nm = (f.ty, 0) := fun f hf => by
            obtain ⟨q, q1, q2, q3, _, q5⟩ := ha f hf
            have hql : q < fs.length := by omega
            have e9 : fs[q].nm = f.nm := by rw [h.nmLo q q1 hql, q3]
            rw [h.fty q hql _ e9, (h.lo q q1 hql).1]
            have := fieldT_fts (fs := fs0) (s := f.nm) q1 (fun p hp hpq e2 => by
              have := h.inj p q (by omega) hql (by rw [(h.lo p hp (by omega)).1, e2, e9]); omega) (by rw [← (h.lo q q1 hql).1]; exact e9)
            rw [this] at q5
            exact q5
          rw [g2] at hk
          by_cases h2k : f.kind = 2
          · rw [g4]
            exact ⟨f.ty, gn_ty2 hG 2 f.ty f.x hf.ty.1 hf.ty.2 (hf.fml h2k), fun _ => g3.symm⟩
          · obtain ⟨k, k1, k3, hg⟩ := hf.lkp (by have := hf.kd; omega)
            rw [g4]
            exact ⟨k, gn_ty2 hG 1 k f.x k1 k3 hg, fun e => absurd (g2.symm.trans e) h2k⟩
        have ho := ofT_ty (fs := fts fs) c1
        by_cases h2 : fs0[j].kind = 2
        · rw [if_pos h2]
          unfold fitsT
          rw [ho, c2, if_pos rfl, if_pos (c3 h2)]
        · rw [if_neg h2]
          split
          · rw [ho, c2]
          · rfl
    · obtain ⟨q, hq, rfl, e⟩ := h.nmHi j h0 hj
      obtain ⟨_, e2, e3, e4⟩ := h.hi q hq hj
      have hn := h.nxt_lt q
      have hnl : fs0.length + (q + 1) % m < fs.length := by omega
      obtain ⟨e5, _, e6, _⟩ := h.hi ((q + 1) % m) hn hnl
      have ht := ref_ty (fts fs) _ _ (h.fty _ hnl _ e5)
      rw [e6] at ht
      have ho := ofT_ty (fs := fts fs) (ref_ok ((q + 1) % m) (by omega))
      rw [if_pos e2, e3, e4]
      unfold fitsT
      rw [ho, ht, if_pos rfl, if_pos rfl]
  unfold checkF
  rw [if_neg (by omega), scan_zero _ h1, if_pos rfl, scan_zero _ h2]
theorem needsLo (h : RingF rs fs0 X0 π m fs X) (i : Nat) (h0 : i < fs0.length) : ∀ j ∈ nd (needsF fs X) i, j < fs0.length ∧ π j < π i := fun j hj => by
  have hi : i < fs.length := by have := h.len; omega
  obtain ⟨l1, l2⟩ := h.lo i h0 hi
  rw [needsF_nd _ _ _ hi] at hj
  unfold needF at hj
  rw [dif_pos hi, l1, l2] at hj
  by_cases hk : fs0[i].kind = 1
  · rw [if_pos hk] at hj; simp at hj
  · rw [if_neg hk] at hj
    obtain ⟨c1, _, c3⟩ := h.base.src i h0 hk
    obtain ⟨s, hs, rfl⟩ := List.mem_map.1 hj
    have hs2 : s ∈ Ex.refs (X0 i) := by
      have e := bytes_refs (Ex.refs (X0 i))
      unfold ofL at hs
      rw [if_pos c1] at hs
      unfold mkL at hs e
      obtain ⟨b, hb, rfl⟩ := List.mem_map.1 hs
      rw [rise_mem] at hb
      rw [← e]
      exact List.mem_map.2 ⟨b, hb, rfl⟩
    obtain ⟨q, q1, q2, q3⟩ := c3 s hs2
    have hq : q < fs.length := by have := h.len; omega
    have : plN fs s = q := by unfold plN; rw [q3, h.place q hq _ (h.nmLo q q1 hq), if_pos hq]
    rw [this]; exact ⟨q1, q2⟩
theorem needsHi (h : RingF rs fs0 X0 π m fs X) (q : Nat) (hq : q < m) : nd (needsF fs X) (fs0.length + q) = [fs0.length + (q + 1) % m] := by
  have hl := h.len
  have h4 := h.m4
  have hi : fs0.length + q < fs.length := by omega
  obtain ⟨_, e2, _, e4⟩ := h.hi q hq hi
  have hn := h.nxt_lt q
  have hnl : fs0.length + (q + 1) % m < fs.length := by omega
  obtain ⟨e5, _⟩ := h.hi ((q + 1) % m) hn hnl
  rw [needsF_nd _ _ _ hi]
  unfold needF
  rw [dif_pos hi, if_neg (by omega), e4, ref_of _ (by omega)]
  unfold plN
  rw [List.map_cons, h.place _ hnl _ e5, if_pos hnl]; rfl
theorem rankLo (h : RingF rs fs0 X0 π m fs X) : ∀ (b i : Nat), π i ≤ b → i < fs0.length → 0 ≤ rk (rankF (needsF fs X)) i
  | b, i, hb, hi => by
    have hl := h.len
    have hn : ∀ j ∈ nd (needsF fs X) i, 0 ≤ rk (rankF (needsF fs X)) j := fun j hj => by
      obtain ⟨h1, h2⟩ := h.needsLo i hi j hj
      exact rankLo h (b - 1) j (by omega) h1
    have := (above_ok (nd (needsF fs X) i) 0 hn (Int.le_refl _)).1
    rwa [rankF_fix _ i (by rw [needsF_len]; omega)] at this
  termination_by b i hb _ => π i
  decreasing_by omega
theorem rankHi (h : RingF rs fs0 X0 π m fs X) (q : Nat) (hq : q < m) : rk (rankF (needsF fs X)) (fs0.length + q) = -1 := by
  have hl := h.len
  have hge := fun i => (bd_pass (needsF fs X) (needsF fs X).length i).1
  have hst : ∀ p, p < m → rk (rankF (needsF fs X)) (fs0.length + p) ≠ -1 → rk (rankF (needsF fs X)) (fs0.length + p) = rk (rankF (needsF fs X)) (fs0.length + (p + 1) % m) + 1 ∧ rk (rankF (needsF fs X)) (fs0.length + (p + 1) % m) ≠ -1 := fun p hp hne => by
    have := rankF_fix (needsF fs X) (fs0.length + p) (by rw [needsF_len]; omega)
    rw [h.needsHi p hp] at this
    unfold aboveI at this
    by_cases e : rk (rankF (needsF fs X)) (fs0.length + (p + 1) % m) = -1
    · rw [if_pos e] at this; exact absurd this.symm hne
    · rw [if_neg e] at this
      unfold aboveI at this
      have h9 : -1 ≤ rk (rankF (needsF fs X)) (fs0.length + (p + 1) % m) := hge _
      omega
  rcases Classical.em (rk (rankF (needsF fs X)) (fs0.length + q) = -1) with e | e
  · exact e
  · exfalso
    have hm1 := h.m1
    have key : ∀ k : Nat, rk (rankF (needsF fs X)) (fs0.length + (q + k) % m) = rk (rankF (needsF fs X)) (fs0.length + q) - k ∧ rk (rankF (needsF fs X)) (fs0.length + (q + k) % m) ≠ -1 := fun k => by
      induction k with
      | zero => rw [Nat.add_zero, Nat.mod_eq_of_lt hq]; exact ⟨by omega, e⟩
      | succ k ih =>
        have := hst ((q + k) % m) (Nat.mod_lt _ (by omega)) ih.2
        rw [Nat.mod_add_mod] at this
        rw [← Nat.add_assoc]
        refine ⟨by omega, this.2⟩
    have := (key m).1
    rw [Nat.add_mod_right, Nat.mod_eq_of_lt hq] at this
    omega
theorem it (h : RingF rs fs0 X0 π m fs X) : ∀ k, itN (nxtF (needsF fs X) (rankF (needsF fs X))) fs0.length k = fs0.length + k % m
  | 0 => by rw [Nat.zero_mod]; rfl
  | k + 1 => by
    have hk : k % m < m := Nat.mod_lt _ (by have := h.m1; omega)
    show nxtF _ _ (itN _ _ k) = _
    rw [it h k]
    unfold nxtF
    rw [h.needsHi _ hk]
    have : unB (rankF (needsF fs X)) (fs0.length + (k % m + 1) % m) = true := decide_eq_true (h.rankHi _ (h.nxt_lt _))
    rw [Nat.mod_add_mod] at this ⊢
    simp [List.findIdx_cons, this]
theorem cyc (h : RingF rs fs0 X0 π m fs X) {v : Value} {w : World} (hc : CycAt (nmF fs) (nxtF (needsF fs X) (rankF (needsF fs X))) fs0.length fs.length v w) : ∃ g c, v = .slice (some ⟨g, 0, none⟩) m c ∧ ∀ i, i < m → w.cell? ⟨g, i, none⟩ = some (.string (rnm i)) := by
  obtain ⟨k, j, g, c, rfl, hj, hkn, he, hinj, hcell⟩ := hc
  have hm1 := h.m1
  have hl := h.len
  rw [h.it, h.it] at he
  have hkm : k ≤ m := by
    rcases Nat.lt_or_ge m k with h1 | h1
    · have := hinj 0 m (by omega) h1 (by rw [h.it, h.it, Nat.mod_self, Nat.zero_mod])
      omega
    · exact h1
  have hjm : j % m = j := Nat.mod_eq_of_lt (by omega)
  have hk : k = m := by
    rcases Nat.lt_or_ge k m with h1 | h1
    · rw [Nat.mod_eq_of_lt h1] at he; omega
    · omega
  subst hk
  have hj0 : j = 0 := by rw [Nat.mod_self] at he; omega
  subst hj0
  refine ⟨g, c, rfl, fun i hi => ?_⟩
  have := hcell i (by omega)
  rw [Nat.zero_add, h.it, Nat.mod_eq_of_lt hi, nmF_at _ _ (by omega)] at this
  rw [this, (h.hi i hi (by omega)).1]
end RingF
end Go.Proofs.YtdndphagfohpnaaDoor.RngO
