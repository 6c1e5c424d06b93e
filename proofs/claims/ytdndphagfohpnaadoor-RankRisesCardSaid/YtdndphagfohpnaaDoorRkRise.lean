/- What RankRises counts: the greatest rank of the fields that a field asks for. -/
import Derived.Test.YtdndphagfohpnaaDoorRkKeep
import Derived.Test.YtdndphagfohpnaaDoorNmHas
namespace Go.Proofs.YtdndphagfohpnaaDoor.RkR
open Go.RowKit
open ValM LexM NumM ExM NmM Kit ExL ExP ExN ExC RawV Within RawL RawN GenL Gen GenT GenV FrmM Frm FldP FldR FldC FrmT FrmO TyM Ty TyG NmG NmO NmI NmT NmR NmV RkM RkA RkB RkC RkD RkO RkS RkK
set_option linter.unusedVariables false

/-- What the statement's inner loop counts up to a place. -/
def mostK (C : Nat → Bool) (r : List Int) : Nat → Int
  | 0 => 0
  | k + 1 => if C k = true then max (mostK C r k) (rk r k + 1) else mostK C r k
theorem most_mx {C : Nat → Bool} {r : List Int} (hr : ∀ i, -1 ≤ rk r i) : ∀ k, Mx r (fun j => j < k ∧ C j = true) (mostK C r k)
  | 0 => ⟨Int.le_refl _, fun j h => absurd h.1 (by omega), .inl rfl⟩
  | k + 1 => by
    obtain ⟨h1, h2, h3⟩ := most_mx (C := C) hr k
    have hk := hr k
    unfold mostK
    by_cases hc : C k = true
    · rw [if_pos hc]
      refine ⟨by omega, fun j hj => ?_, ?_⟩
      · by_cases e : j = k
        · subst e; omega
        · have := h2 j ⟨by omega, hj.2⟩; omega
      · by_cases hm : mostK C r k ≤ rk r k + 1
        · exact .inr ⟨k, ⟨by omega, hc⟩, by omega⟩
        · rcases h3 with h3 | ⟨j, hj, e⟩
          · exact .inl (by omega)
          · exact .inr ⟨j, ⟨by omega, hj.2⟩, by omega⟩
    · rw [if_neg hc]
      refine ⟨h1, fun j hj => h2 j ⟨by by_cases e : j = k; subst e; exact absurd hj.2 hc; omega, hj.2⟩, ?_⟩
      rcases h3 with h3 | ⟨j, hj, e⟩
      · exact .inl h3
      · exact .inr ⟨j, ⟨by omega, hj.2⟩, e⟩
theorem most_bd {C : Nat → Bool} {r : List Int} {b : Int} (hb : 0 ≤ b) (hr : ∀ i, rk r i ≤ b) : ∀ k, 0 ≤ mostK C r k ∧ mostK C r k ≤ b + 1
  | 0 => ⟨Int.le_refl _, by unfold mostK; omega⟩
  | k + 1 => by
    have := most_bd (C := C) hb hr k
    have := hr k
    unfold mostK
    split <;> omega
/-- Does the source of a field ask for another one? -/
def askB (fs : List GenL.Fd) (X : Nat → Ex) (i : Nat) (j : Nat) : Bool := !decide ((fs[i]?.map (·.kind)).getD 0 = 1) && hasB (Ex.refs (X i)) ((fs[j]?.map (·.nm)).getD ⟨#[]⟩)
theorem ask_needs {rs : List Rw} {fs : List GenL.Fd} {X : Nat → Ex} {π : Nat → Nat} (h : OfBase rs fs X π) {i j : Nat} (hi : i < fs.length) (hj : j < fs.length) : askB fs X i j = true ↔ j ∈ nd (needsF fs X) i := by
  rw [needsF_nd _ _ _ hi]
  unfold askB needF
  rw [dif_pos hi, List.getElem?_eq_getElem hi, List.getElem?_eq_getElem hj]
  simp only [Option.map_some, Option.getD_some]
  by_cases hk : fs[i].kind = 1
  · rw [if_pos hk]; simp [hk]
  · rw [if_neg hk]
    obtain ⟨c1, _, c3⟩ := h.src i hi hk
    have e : mkL (ofL (X i)) = mkL (rise (bytesL (Ex.refs (X i)))) := by unfold ofL; rw [if_pos c1]
    rw [e]
    have hm : ∀ s, s ∈ mkL (rise (bytesL (Ex.refs (X i)))) ↔ s ∈ Ex.refs (X i) := fun s => by
      have eb := bytes_refs (Ex.refs (X i))
      unfold mkL at eb ⊢
      constructor
      · intro hs
        obtain ⟨b, hb, rfl⟩ := List.mem_map.1 hs
        rw [rise_mem] at hb
        rw [← eb]; exact List.mem_map.2 ⟨b, hb, rfl⟩
      · intro hs
        rw [← eb] at hs
        obtain ⟨b, hb, rfl⟩ := List.mem_map.1 hs
        exact List.mem_map.2 ⟨b, (rise_mem _ _).2 hb, rfl⟩
    have hnm := h.nm j hj
    rw [Bool.and_eq_true, show (!decide (fs[i].kind = 1)) = true by simp [hk], hnm]
    constructor
    · rintro ⟨_, hb⟩
      have hs := (hasB_true _ _).1 hb
      exact List.mem_map.2 ⟨_, (hm _).2 hs, by unfold plN; rw [h.place j hj, if_pos hj]⟩
    · intro hs
      obtain ⟨s, hs1, hs2⟩ := List.mem_map.1 hs
      refine ⟨rfl, (hasB_true _ _).2 ?_⟩
      have hs3 := (hm s).1 hs1
      obtain ⟨q, q1, q2, q3⟩ := c3 s hs3
      have : plN fs s = q := by unfold plN; rw [q3, h.place q q1, if_pos q1]
      rw [this] at hs2
      subst hs2
      rw [← q3]; exact hs3
theorem most_rank {rs : List Rw} {fs : List GenL.Fd} {X : Nat → Ex} {π : Nat → Nat} (h : OfBase rs fs X π) (h0 : ∀ i, i < fs.length → 0 ≤ rk (rankF (needsF fs X)) i) (i : Nat) (hi : i < fs.length) : mostK (askB fs X i) (rankF (needsF fs X)) fs.length = rk (rankF (needsF fs X)) i := by
  have hl := needsF_len fs X
  have h1 := most_mx (C := askB fs X i) (r := rankF (needsF fs X)) (rankF_lo _) fs.length
  have h2 := rank_mx (ns := needsF fs X) (fun i hi => h0 i (by rw [← hl]; exact hi)) (fun i hi j hj => by rw [hl] at hi ⊢; exact (h.needs i hi j hj).1) i (by rw [hl]; exact hi)
  refine h1.uniq ⟨h2.1, fun j hj => h2.2.1 j ((ask_needs h hi hj.1).1 hj.2), ?_⟩
  rcases h2.2.2 with e | ⟨j, hj, e⟩
  · exact .inl e
  · have hjl := (h.needs i hi j hj).1
    exact .inr ⟨j, ⟨hjl, (ask_needs h hi hjl).2 hj⟩, e⟩
end Go.Proofs.YtdndphagfohpnaaDoor.RkR
