/- What is made for a type has this type; a formula in the place of a field keeps the type. -/
import Derived.Test.YtdlfhldboagbeaaGreatDoorTy
import Derived.Test.YtdlfhldboagbeaaGreatDoorNmGen
import Derived.Test.YtdlfhldboagbeaaGreatDoorMaths
namespace Go.Proofs.YtdlfhldboagbeaaGreatDoor.TyG
open Go.RowKit
open ValM LexM NumM ExM NmM Kit ExL ExP ExV RawL GenL Gen GenT NmP NmG TyM Ty
set_option linter.unusedVariables false

theorem errL_zero (ks : List Int) : errL (ks.map fun k => (k, (0 : Int))) = 0 := by
  induction ks with
  | nil => rfl
  | cons k r ih => rw [List.map_cons, errL, if_pos rfl, ih]
theorem vK_id {kind : Int} (h1 : 1 ≤ kind) (h3 : kind ≤ 3) : RawV.vK kind = kind := by
  unfold RawV.vK
  split
  · omega
  · split <;> omega
theorem opT_ty {op : Int} {ks : List Int} {kind : Int} (h1 : 1 ≤ kind) (h3 : kind ≤ 3) (h : OpT op ks kind) : applyR (ruleReq op) (ruleRes op) ks = (kind, 0) ∧ (∀ k ∈ ks, 1 ≤ k ∧ k ≤ 3) ∧ op ≠ 1 ∧ op ≠ 2 := by
  have hk : kind = 1 ∨ kind = 2 ∨ kind = 3 := by omega
  rcases h with ⟨rfl, rfl⟩ | ⟨rfl, ⟨rfl, rfl⟩ | ⟨rfl, rfl⟩ | ⟨a, b, rfl⟩⟩ | ⟨rfl, ⟨rfl, rfl⟩ | ⟨a, b, rfl⟩ | ⟨j, j1, j3, a, b, rfl⟩⟩ | ⟨k1, k2, rfl, rfl⟩
  · rcases hk with rfl | rfl | rfl <;> exact ⟨by decide, by decide, by decide, by decide⟩
  · exact ⟨by decide, by decide, by decide, by decide⟩
  · exact ⟨by decide, by decide, by decide, by decide⟩
  · have : op = 5 ∨ op = 6 ∨ op = 7 ∨ op = 8 ∨ op = 9 := by omega
    rcases this with rfl | rfl | rfl | rfl | rfl <;> exact ⟨by decide, by decide, by decide, by decide⟩
  · exact ⟨by decide, by decide, by decide, by decide⟩
  · have : op = 15 ∨ op = 16 := by omega
    rcases this with rfl | rfl <;> exact ⟨by decide, by decide, by decide, by decide⟩
  · have : op = 11 ∨ op = 12 ∨ op = 13 ∨ op = 14 := by omega
    have hj : j = 1 ∨ j = 2 ∨ j = 3 := by omega
    rcases this with rfl | rfl | rfl | rfl <;> rcases hj with rfl | rfl | rfl <;> exact ⟨by decide, by decide, by decide, by decide⟩
  · obtain rfl : kind = 3 := by omega
    exact ⟨by decide, by decide, by decide, by decide⟩
/-- What is made for a type has it. -/
theorem gn_ty {fs : List GenL.Fd} (hfs : ∀ f ∈ fs, fieldT (fts fs) f.nm = (f.ty, 0)) : ∀ (k : Nat) (kind : Int) (x : Ex), 1 ≤ kind → kind ≤ 3 → Gn fs k kind x → Ex.ty (fts fs) x = (kind, 0) := by
  have leaf : ∀ (kind : Int) (d : Nd), 1 ≤ kind → kind ≤ 3 → LeafD fs kind d → Ex.ty (fts fs) (.mk d []) = (kind, 0) := fun kind d h1 h3 hl => by
    rw [ty_mk, tyL_nil]
    unfold tyN
    rcases hl with ⟨g1, _, g3, _⟩ | ⟨g1, _, _, _, f, hf, g5, g6⟩
    · rw [if_pos g1, g3, vK_id h1 h3]
    · rw [if_neg (by omega), if_pos g1, ← g5, hfs f hf, g6]
  intro k
  induction k with
  | zero =>
    intro kind x h1 h3 h
    obtain ⟨d, rfl, hl⟩ := h
    exact leaf kind d h1 h3 hl
  | succ k ih =>
    intro kind x h1 h3 h
    rcases h with ⟨d, rfl, hl⟩ | ⟨op, ks, l, rfl, hop, hlen, hl⟩
    · exact leaf kind d h1 h3 hl
    · obtain ⟨e1, e2, e3, e4⟩ := opT_ty h1 h3 hop
      have hty : tyL (fts fs) l = ks.map fun k => (k, (0 : Int)) := by
        rw [tyL_map]
        refine List.ext_getElem (by rw [List.length_map, List.length_map, hlen]) fun i hi hj => ?_
        rw [List.length_map] at hi hj
        rw [List.getElem_map, List.getElem_map]
        have hb := e2 ks[i] (List.getElem_mem hj)
        exact ih _ _ hb.1 hb.2 (hl i hi hj)
      rw [ty_mk, hty]
      unfold tyN
      rw [if_neg e3, if_neg e4, if_pos (errL_zero ks), List.map_map]
      have : (List.map ((fun p : Int × Int => p.1) ∘ fun k => (k, (0 : Int))) ks) = ks := by
        rw [show ((fun p : Int × Int => p.1) ∘ fun k : Int => (k, (0 : Int))) = id from rfl, List.map_id]
      rw [this]; exact e1
theorem some_ty : ∀ f ∈ someF, fieldT (fts someF) f.nm = (f.ty, 0) := by decide
theorem some_n : fieldT (fts someF) nN = (1, 0) := by decide
/-- A formula of the field's type in its place. -/
theorem put_ty (fs : List (ByteArray × Int)) (n : ByteArray) (y : Ex) (h : Ex.ty fs y = fieldT fs n) : ∀ x, Ex.ty fs (Ex.put n y x) = Ex.ty fs x := by
  refine Ex.ind fun d l ih => ?_
  rw [put_mk]
  by_cases hd : d.op = 2 ∧ d.nm = n
  · rw [if_pos hd, h, ty_mk]
    unfold tyN
    rw [if_neg (by omega), if_pos hd.1, hd.2]
  · rw [if_neg hd, ty_mk, ty_mk, tyL_map, tyL_map, List.map_map]
    congr 1
    exact List.map_congr_left fun x hx => ih x hx
theorem ofT_ty {fs : List (ByteArray × Int)} {x : Ex} (h : x.checkE = 0) : ofT fs x = Ex.ty fs x := by unfold ofT; rw [if_pos h]
end Go.Proofs.YtdlfhldboagbeaaGreatDoor.TyG
