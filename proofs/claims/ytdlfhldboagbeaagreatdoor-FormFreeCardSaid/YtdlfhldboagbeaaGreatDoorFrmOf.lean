/- The fields of a form, in any order: they may be, and each refers to fields that were made ahead of it. -/
import Derived.Test.YtdlfhldboagbeaaGreatDoorFormTop
import Derived.Test.YtdlfhldboagbeaaGreatDoorFldCheck
import Derived.Test.YtdlfhldboagbeaaGreatDoorTyGen
import Derived.Test.YtdlfhldboagbeaaGreatDoorNmGen
import Derived.Test.YtdlfhldboagbeaaGreatDoorNmHas
namespace Go.Proofs.YtdlfhldboagbeaaGreatDoor.FrmO
open Go.RowKit
open ValM LexM NumM ExM NmM Kit ExL ExP ExN ExC RawV Within RawL RawN GenL Gen GenT GenV FrmM Frm FldP FldR FldC FrmT TyM Ty TyG NmG
set_option linter.unusedVariables false

def fdOf (v : FV) : GenL.Fd := ⟨v.nm, v.kind, v.ty, v.x.d, none, 0, 0⟩
theorem nts_fdOf (l : List FV) : nts (l.map fdOf) = fvs l := by unfold nts fvs; rw [List.map_map]; rfl
/-- What is made for a type has it, by any list that tells the same types. -/
theorem gn_ty2 {fs : List GenL.Fd} {G : List (ByteArray × Int)} (hfs : ∀ f ∈ fs, fieldT G f.nm = (f.ty, 0)) : ∀ (k : Nat) (kind : Int) (x : Ex), 1 ≤ kind → kind ≤ 3 → Gn fs k kind x → Ex.ty G x = (kind, 0) := by
  have leaf : ∀ (kind : Int) (d : Nd), 1 ≤ kind → kind ≤ 3 → LeafD fs kind d → Ex.ty G (.mk d []) = (kind, 0) := fun kind d h1 h3 hl => by
    rw [ty_mk, tyL_nil]
    unfold tyN
    rcases hl with ⟨g1, _, g3, _⟩ | ⟨g1, _, _, _, f, hf, g5, g6⟩
    · rw [if_pos g1, g3, vK_id h1 h3]
    · rw [if_neg (by omega), if_pos g1, ← g5, hfs f hf, g6]
  intro k
  induction k with
  | zero =>
    intro kind x h1 h3 h
    obtain ⟨d, rfl, hl⟩ := h
    exact leaf kind d h1 h3 hl
  | succ k ih =>
    intro kind x h1 h3 h
    rcases h with ⟨d, rfl, hl⟩ | ⟨op, ks, l, rfl, hop, hlen, hl⟩
    · exact leaf kind d h1 h3 hl
    · obtain ⟨e1, e2, e3, e4⟩ := opT_ty h1 h3 hop
      have hty : tyL G l = ks.map fun k => (k, (0 : Int)) := by
        rw [tyL_map]
        refine List.ext_getElem (by rw [List.length_map, List.length_map, hlen]) fun i hi hj => ?_
        rw [List.length_map] at hi hj
        rw [List.getElem_map, List.getElem_map]
        have hb := e2 ks[i] (List.getElem_mem hj)
        exact ih _ _ hb.1 hb.2 (hl i hi hj)
      rw [ty_mk, hty]
      unfold tyN
      rw [if_neg e3, if_neg e4, if_pos (errL_zero ks), List.map_map]
      have : (List.map ((fun p : Int × Int => p.1) ∘ fun k => (k, (0 : Int))) ks) = ks := by
        rw [show ((fun p : Int × Int => p.1) ∘ fun k : Int => (k, (0 : Int))) = id from rfl, List.map_id]
      rw [this]; exact e1
theorem fieldsV_take (rs : List Rw) : ∀ (n k : Nat), k ≤ n → (fieldsV rs n).1.take k = (fieldsV rs k).1
  | 0, k, h => by obtain rfl : k = 0 := by omega
                  rfl
  | n + 1, k, h => by
    by_cases e : k = n + 1
    · subst e; exact List.take_of_length_le (Nat.le_of_eq (fieldsV_len rs _))
    · have : (fieldsV rs (n + 1)).1 = (fieldsV rs n).1 ++ [_] := rfl
      rw [this, List.take_append_of_le_length (by rw [fieldsV_len]; omega)]
      exact fieldsV_take rs n k (by omega)
/-- The fields ahead of a base field, as the generator had them. -/
def aheadF (rs : List Rw) (i : Nat) : List GenL.Fd := ((baseV rs).take i).map fdOf
/-- A base field. -/
structure BaseF (rs : List Rw) (i : Nat) (f : FV) : Prop where
  nm : f.nm = nmK i
  kd : 1 ≤ f.kind ∧ f.kind ≤ 3
  ty : 1 ≤ f.ty ∧ f.ty ≤ 3
  inp : f.kind = 1 → f.x = zeroX
  fml : f.kind = 2 → Gn (aheadF rs i) 2 f.ty f.x
  lkp : f.kind = 3 → ∃ k, 1 ≤ k ∧ k ≤ 3 ∧ Gn (aheadF rs i) 1 k f.x
theorem base_at (rs : List Rw) (i : Nat) (h : i < (baseV rs).length) : BaseF rs i (baseV rs)[i] := by
  have hlen := baseV_len rs
  have key : ∀ (l : List FV) (z : FV) (h : l.length < (l ++ [z]).length), (l ++ [z])[l.length] = z := fun l z h => by simp
  have ht1 : (baseV rs).take (i + 1) = (fieldsV rs (i + 1)).1 := fieldsV_take rs _ _ (by omega)
  have ht : (baseV rs).take i = (fieldsV rs i).1 := fieldsV_take rs _ _ (by omega)
  have hli := fieldsV_len rs i
  obtain ⟨a, ha⟩ : ∃ a, (fieldsV rs i).2 = a := ⟨_, rfl⟩
  have e : (baseV rs)[i] = ⟨nmK i, 1 + pick (nextV rs a).k 3, 1 + pick (nextV rs a).y 3, (srcV rs (fieldsV rs i).1 a).1⟩ := by
    have h1 : (baseV rs)[i] = ((baseV rs).take (i + 1))[i]'(by rw [List.length_take]; omega) := by rw [List.getElem_take]
    have h2 : ((baseV rs).take (i + 1))[i]'(by rw [List.length_take]; omega) = (fieldsV rs (i + 1)).1[i]'(by rw [fieldsV_len]; omega) := by simp only [ht1]
    rw [h1, h2]
    have h3 : (fieldsV rs (i + 1)).1[i]'(by rw [fieldsV_len]; omega) = (fieldsV rs (i + 1)).1[(fieldsV rs i).1.length]'(by rw [fieldsV_len, fieldsV_len]; omega) := by congr 1; exact hli.symm
    rw [h3, ← ha]
    exact key _ _ (by simp)
  have hk := pick_bd (nextV rs a).k 3 (by decide)
  have hy := pick_bd (nextV rs a).y 3 (by decide)
  have hx := pick_bd (nextV rs a).x 3 (by decide)
  have hF : nts (aheadF rs i) = fvs (fieldsV rs i).1 := by unfold aheadF; rw [ht]; exact nts_fdOf _
  rw [e]
  refine ⟨rfl, ⟨by show 1 ≤ 1 + _; omega, by show 1 + _ ≤ 3; omega⟩, ⟨by show 1 ≤ 1 + _; omega, by show 1 + _ ≤ 3; omega⟩, fun h => ?_, fun h => ?_, fun h => ?_⟩
  · have h : 1 + pick (nextV rs a).k 3 = 1 := h
    show (srcV rs (fieldsV rs i).1 a).1 = _
    unfold srcV
    rw [if_neg (by omega), if_neg (by omega)]
  · have h : 1 + pick (nextV rs a).k 3 = 2 := h
    show Gn _ _ (1 + pick (nextV rs a).y 3) (srcV rs (fieldsV rs i).1 a).1
    unfold srcV
    rw [if_pos h, ← hF]
    exact exprV_gn 2 _ _
  · have h : 1 + pick (nextV rs a).k 3 = 3 := h
    refine ⟨1 + pick (nextV rs a).x 3, by omega, by omega, ?_⟩
    show Gn _ _ _ (srcV rs (fieldsV rs i).1 a).1
    unfold srcV
    rw [if_neg (by omega), if_pos h, ← hF]
    exact exprV_gn 1 _ _
theorem nmK_ok : ∀ i, i < 10 → nmB (nmK i).data.toList = true ∧ LexB.nameE (nmK i).data.toList = 0 := by decide
/-- The fields of a form, in some order. -/
structure OfBase (rs : List Rw) (fs : List GenL.Fd) (X : Nat → Ex) (π : Nat → Nat) : Prop where
  len : fs.length = countV rs
  lt : ∀ i, i < fs.length → π i < fs.length
  inj : ∀ i j, i < fs.length → j < fs.length → π i = π j → i = j
  sur : ∀ j, j < fs.length → ∃ i, i < fs.length ∧ π i = j
  at' : ∀ (i : Nat) (h : i < fs.length) (hb : π i < (baseV rs).length), fs[i].nm = (baseV rs)[π i].nm ∧ fs[i].kind = (baseV rs)[π i].kind ∧ fs[i].ty = (baseV rs)[π i].ty ∧ X i = (baseV rs)[π i].x ∧ (X i = zeroX → bareB fs[i].d fs[i].n = true)
namespace OfBase
variable {rs : List Rw} {fs : List GenL.Fd} {X : Nat → Ex} {π : Nat → Nat}
theorem ten (h : OfBase rs fs X π) : fs.length ≤ 10 := by rw [h.len]; exact (countV_bd rs).2
theorem bl (h : OfBase rs fs X π) {i : Nat} (hi : i < fs.length) : π i < (baseV rs).length := by rw [baseV_len, ← h.len]; exact h.lt i hi
theorem base (h : OfBase rs fs X π) (i : Nat) (hi : i < fs.length) : ∃ f, BaseF rs (π i) f ∧ fs[i].nm = f.nm ∧ fs[i].kind = f.kind ∧ fs[i].ty = f.ty ∧ X i = f.x ∧ (X i = zeroX → bareB fs[i].d fs[i].n = true) :=
  ⟨_, base_at rs (π i) (h.bl hi), h.at' i hi (h.bl hi)⟩
theorem nm (h : OfBase rs fs X π) (i : Nat) (hi : i < fs.length) : fs[i].nm = nmK (π i) := by
  obtain ⟨f, hf, h1, _⟩ := h.base i hi
  rw [h1, hf.nm]
theorem place (h : OfBase rs fs X π) (i : Nat) (hi : i < fs.length) : atF fs (nmK (π i)) = i := by
  refine atF_eq _ _ i hi (fun j hj hji e => ?_) (h.nm i hi)
  rw [h.nm j hj] at e
  have h1 := h.lt j hj
  have h2 := h.lt i hi
  have h3 := h.ten
  have := h.inj j i hj hi (nmK_inj _ (by omega) _ (by omega) e)
  omega
theorem ahead (h : OfBase rs fs X π) {i : Nat} (hi : i < fs.length) : ∀ f ∈ aheadF rs (π i), ∃ j, j < fs.length ∧ π j < π i ∧ f.nm = nmK (π j) ∧ nmB f.nm.data.toList = true ∧ fieldT (fts fs) f.nm = (f.ty, 0) := fun f hf => by
  unfold aheadF at hf
  obtain ⟨v, hv, rfl⟩ := List.mem_map.1 hf
  obtain ⟨m, hm, rfl⟩ := List.getElem_of_mem hv
  rw [List.length_take, baseV_len] at hm
  rw [List.getElem_take]
  have hml : m < (baseV rs).length := by rw [baseV_len]; omega
  have hb := base_at rs m hml
  have hl := h.len
  obtain ⟨j, hj, e⟩ := h.sur m (by omega)
  have h10 := h.ten
  have hnm : (fdOf (baseV rs)[m]).nm = nmK m := hb.nm
  refine ⟨j, hj, by omega, by rw [hnm, e], by rw [hnm]; exact (nmK_ok m (by omega)).1, ?_⟩
  have hT := fieldT_fts (fs := fs) (s := nmK m) hj (fun q hq hqj eq => by
    rw [h.nm q hq] at eq
    have := h.inj q j hq hj (nmK_inj _ (by have := h.lt q hq; omega) _ (by omega) (eq.trans (by rw [e])))
    omega) (by rw [h.nm j hj, e])
  rw [hnm, hT]
  have h3 := (h.at' j hj (h.bl hj)).2.2.1
  have h4 : (baseV rs)[π j]'(h.bl hj) = (baseV rs)[m]'(by rw [baseV_len]; omega) := by simp only [e]
  rw [h3, h4]; rfl
/-- The source of each field that has one may be, is of its type, and refers to fields ahead alone. -/
theorem src (h : OfBase rs fs X π) (i : Nat) (hi : i < fs.length) (hk : fs[i].kind ≠ 1) : (X i).checkE = 0 ∧ (∃ k, Ex.ty (fts fs) (X i) = (k, 0) ∧ (fs[i].kind = 2 → k = fs[i].ty)) ∧ ∀ s ∈ Ex.refs (X i), ∃ j, j < fs.length ∧ π j < π i ∧ s = nmK (π j) := by
  obtain ⟨f, hf, _, h2, h3, h4, _⟩ := h.base i hi
  have ha := h.ahead hi
  have key : ∀ (n : Nat) (k : Int) (x : Ex), n ≤ 2 → 1 ≤ k → k ≤ 3 → Gn (aheadF rs (π i)) n k x → x.checkE = 0 ∧ Ex.ty (fts fs) x = (k, 0) ∧ ∀ s ∈ Ex.refs x, ∃ j, j < fs.length ∧ π j < π i ∧ s = nmK (π j) := fun n k x hn h1 h2 hg => by
    obtain ⟨g1, g2, g3⟩ := gn_ok (fun f hf => by obtain ⟨_, _, _, _, h, _⟩ := ha f hf; exact h) n k x hg
    have hb : nb n ≤ nb 2 := by
      rcases (by omega : n = 0 ∨ n = 1 ∨ n = 2) with rfl | rfl | rfl <;> decide
    have e2 : nb 2 = 13 := rfl
    refine ⟨by rw [checkE_ok (by omega) (by omega)]; exact g1, gn_ty2 (fun f hf => by obtain ⟨_, _, _, _, _, h⟩ := ha f hf; exact h) n k x h1 h2 hg, fun s hs => ?_⟩
    obtain ⟨f, hf, e⟩ := gn_refs n k x hg s hs
    obtain ⟨j, q1, q2, q3, _⟩ := ha f hf
    exact ⟨j, q1, q2, by rw [← e, q3]⟩
  rw [h2] at hk
  have hkd := hf.kd
  by_cases h2k : f.kind = 2
  · obtain ⟨a, b, c⟩ := key 2 f.ty f.x (by omega) hf.ty.1 hf.ty.2 (hf.fml h2k)
    rw [h4]
    exact ⟨a, ⟨f.ty, b, fun _ => h3.symm⟩, c⟩
  · obtain ⟨k, k1, k3, hg⟩ := hf.lkp (by omega)
    obtain ⟨a, b, c⟩ := key 1 k f.x (by omega) k1 k3 hg
    rw [h4]
    exact ⟨a, ⟨k, b, fun e => absurd (h2.symm.trans e) h2k⟩, c⟩
theorem kinds (h : OfBase rs fs X π) (i : Nat) (hi : i < fs.length) : 1 ≤ fs[i].kind ∧ fs[i].kind ≤ 3 ∧ 1 ≤ fs[i].ty ∧ fs[i].ty ≤ 3 := by
  obtain ⟨f, hf, _, h2, h3, _⟩ := h.base i hi
  rw [h2, h3]; exact ⟨hf.kd.1, hf.kd.2, hf.ty.1, hf.ty.2⟩
/-- P9.3 holds of them. -/
theorem check (h : OfBase rs fs X π) : checkF fs X = 0 := by
  have h10 := h.ten
  have hr : ∀ (i : Nat) (hi : i < fs.length), rightE fs[i] (X i) = 0 := fun i hi => by
    obtain ⟨f, hf, h1, h2, h3, h4, h5⟩ := h.base i hi
    obtain ⟨a, b, c, d⟩ := h.kinds i hi
    have hn : LexB.nameE fs[i].nm.data.toList = 0 := by rw [h.nm i hi]; exact (nmK_ok _ (by have := h.lt i hi; omega)).2
    unfold rightE
    rw [if_neg (fun g => g hn), if_pos ⟨isT_iff.2 ⟨a, b⟩, isT_iff.2 ⟨c, d⟩⟩]
    by_cases hk : fs[i].kind = 1
    · rw [if_pos hk, if_pos (h5 (by rw [h4]; exact hf.inp (by rw [← h2]; exact hk)))]
    · rw [if_neg hk]; exact (h.src i hi hk).1
  have h1 : ∀ j, j < fs.length → ownE fs X j = 0 := fun j hj => by
    unfold ownE
    rw [dif_pos hj, if_pos (hr j hj), h.nm j hj, h.place j hj, if_neg (Nat.lt_irrefl _)]
  have h2 : ∀ j, j < fs.length → typE fs X j = 0 := fun j hj => by
    unfold typE srcE
    rw [dif_pos hj]
    by_cases hk : fs[j].kind = 1
    · rw [if_neg (by omega), if_neg (by omega)]
    · obtain ⟨c1, ⟨k, c2, c3⟩, _⟩ := h.src j hj hk
      have ho := ofT_ty (fs := fts fs) c1
      by_cases h2 : fs[j].kind = 2
      · rw [if_pos h2]
        unfold fitsT
        rw [ho, c2, if_pos rfl, if_pos (c3 h2)]
      · rw [if_neg h2]
        obtain ⟨_, b, _⟩ := h.kinds j hj
        split
        · rw [ho, c2]
        · rfl
  unfold checkF
  rw [if_neg (by omega), scan_zero _ h1, if_pos rfl, scan_zero _ h2]
end OfBase
/-- The fields of a form as they lie there. -/
def xOf (es : List FE) (k : Nat) : Ex := (es[k]?.map FE.x).getD zeroX
theorem xOf_at (es : List FE) (k : Nat) (h : k < es.length) : xOf es k = es[k].x := by unfold xOf; rw [List.getElem?_eq_getElem h]; rfl
theorem bare_zero {P : Nat → Prop} {w : World} {d : Nd} {A : Option Addr} {n : Nat} (h : IsP P w zeroX d A n) : bareB d n = true := by
  unfold zeroX at h
  rw [IsP] at h
  obtain ⟨rfl, rfl, _⟩ := h
  decide
theorem form_base {rs : List Rw} {es : List FE} {P : Nat → Prop} {w : World} {A : Option Addr} (h : es.map FE.v = formF rs) (hr : FRow P w A es) : OfBase rs (es.map FE.fd) (xOf es) (plc rs) := by
  obtain ⟨hc, _, _⟩ := form_places h
  have hl : (es.map FE.fd).length = countV rs := by rw [List.length_map, hc]
  refine ⟨hl, fun i hi => by rw [hl] at hi ⊢; exact plc_lt rs i hi, fun i j hi hj e => by rw [hl] at hi hj; exact plc_inj rs i j hi hj e, fun j hj => ?_, fun i hi hb => ?_⟩
  · rw [hl] at hj ⊢
    refine ⟨plc rs j, plc_lt rs j hj, ?_⟩
    unfold plc; split <;> omega
  · have hi' : i < es.length := by simpa using hi
    have hj : i < (formF rs).length := by rw [formF_len, ← hl]; exact hi
    have e := fe_at h i hi' hj
    rw [formF_at rs i hj] at e
    rw [List.getElem_map, xOf_at es i hi']
    obtain ⟨g, _, _, _, his⟩ := hr i hi'
    refine ⟨congrArg FV.nm e, congrArg FV.kind e, congrArg FV.ty e, congrArg FV.x e, fun hz => ?_⟩
    show bareB es[i].x.d es[i].m = true
    rw [hz] at his ⊢
    exact bare_zero his
theorem form_forms {rs : List Rw} {es : List FE} {P : Nat → Prop} {w : World} {A : Option Addr} (h : es.map FE.v = formF rs) (hr : FRow P w A es) : Forms w (es.map FE.fd) (xOf es) := fun k hk => by
  have hk' : k < es.length := by simpa using hk
  obtain ⟨g, _, _, _, his⟩ := hr k hk'
  rw [List.getElem_map, xOf_at es k hk']
  refine ⟨?_, IsP.is _ _ _ _ his⟩
  have := ((form_places h).2.1 k hk').2
  show es[k].nm.size ≤ maxLen
  unfold maxLen; omega
end Go.Proofs.YtdlfhldboagbeaaGreatDoor.FrmO
