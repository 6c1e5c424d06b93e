/- Package rank: Of, where the fields may not be, and where all of them have ranks. The fields of a form, in any order: they may be, and each refers to fields that were made ahead of it. The small form: its fields may be; their ranks are 1, 0, 2. rank.Of of the fields of a form; the statements' own closed fact (ranked). What RankRises counts: the greatest rank of the fields that a field asks for. -/
import Derived.Test.YtdndphagfohpnaaDoorRkD
import Derived.Test.YtdndphagfohpnaaDoorFormTop
import Derived.Test.YtdndphagfohpnaaDoorFldCheck
import Derived.Test.YtdndphagfohpnaaDoorTyGen
import Derived.Test.YtdndphagfohpnaaDoorNmGen
import Derived.Test.YtdndphagfohpnaaDoorShelf
import Derived.Test.YtdndphagfohpnaaDoorNmHas
namespace Go.Proofs.YtdndphagfohpnaaDoor.RkO
open Go.RowKit
open ValM LexM NumM ExM NmM Kit ExL ExP ExN ExC RawV Within RawL GenL FldP FldR FldC NmO NmA NmI NmT NmR RkM RkA RkB RkC RkD
set_option linter.unusedVariables false

def RankOk (ns : List (List Nat)) (w : World) (e : Ending) (w' : World) : Prop :=
  ∃ v, e = .returned (.tuple #[v, .slice none 0 0, .int .i64 0]) ∧ w'.ownsRow w.heap.size 3 1 v ns.length (iV (rankF ns)) ∧ Below w.heap.size w w'
theorem idx_none {r : List Int} (h : ∀ i, i < r.length → rk r i ≠ -1) : Lib.idxOf r (-1) = -1 := by
  have := Lib.idxOf_miss r r.length (-1) fun j hj => h j hj
  rwa [List.take_length] at this
theorem index_any (r : List Int) (x : Int) (v : Value) (base : Nat) (w : World) (hl : r.length ≤ 1048576) (h : w.ownsRow base 3 1 v r.length (iV r)) : Calls Tryd.prog 26 #[v, .int .i64 x] w fun e w' => e = .returned (.int .i64 (Lib.idxOf r x)) ∧ w = w' := by
  rcases Nat.eq_zero_or_pos r.length with h0 | h0
  · obtain ⟨A, c, rfl, _⟩ := IRow.of_own h
    obtain rfl : r = [] := List.eq_nil_of_length_eq_zero h0
    exact (Tryd.slices_Index_int_empty A c x w).mono fun e w' h => ⟨h.1, h.2.symm⟩
  · obtain ⟨A, c, rfl, hr⟩ := IRow.of_own h
    obtain ⟨g, rfl, _⟩ := hr 0 h0
    have := Tryd.slices_Index_int g 0 r.length c r x w (Nat.le_refl _) (by omega) (fun j hj => by
      obtain ⟨g', e, hc⟩ := hr j hj
      injection e with e; injection e with e _ _
      subst e
      rw [Nat.zero_add]; exact hc)
    rw [List.take_length] at this
    exact this.mono fun e w' h => ⟨h.1, h.2.symm⟩
set_option maxRecDepth 100000 in
set_option maxHeartbeats 4000000 in
theorem of_bad (fs : List GenL.Fd) (X : Nat → Ex) (FA : Option Addr) (fc : Nat) (w : World) (hm : fs.length ≤ 1000000000000) (hf : Flds w FA fs) (hX : Forms w fs X) (hT : Tab w) (hcap : fs.length ≤ fc ∧ fc ≤ maxLen) (h0 : checkF fs X ≠ 0) :
    Calls Tryd.prog 11 #[.slice FA fs.length fc] w fun e w' => e = .returned (.tuple #[.slice none 0 0, .slice none 0 0, .int .i64 (checkF fs X)]) ∧ Below w.heap.size w w' := by
  have hc := FldC.check_any fs X FA fc w hm hf hX hT hcap
  obtain ⟨R, hR⟩ : ∃ R, checkF fs X = R := ⟨_, rfl⟩
  rw [hR] at h0 hc ⊢
  have t1 : (R != 0) = true := bne_iff_ne.2 h0
  have HC := Lib.hid hc
  clear hc hR hf hX hT h0
  go_enter Tryd.func11, Tryd.ntmps11
  go_wp2_with (go_at_call 10; refine HC.out.mono ?_; rintro e w1 ⟨rfl, hb⟩; have HB := Lib.hid hb; clear hb)
  exact bodyPost_ret (v := .tuple #[.slice none 0 0, .slice none 0 0, .int .i64 R]) (by simp [results, Tryd.results11, go_sem]) rfl ⟨rfl, HB.out⟩
set_option maxRecDepth 100000 in
set_option maxHeartbeats 4000000 in
theorem of_ok (fs : List GenL.Fd) (X : Nat → Ex) (FA : Option Addr) (fc : Nat) (w : World) (hm : fs.length ≤ 14) (hf : Flds w FA fs) (hX : Forms w fs X) (hT : Tab w) (hcap : fs.length ≤ fc ∧ fc ≤ maxLen) (h0 : checkF fs X = 0) (hr : ∀ i, i < fs.length → 0 ≤ rk (rankF (needsF fs X)) i) :
    Calls Tryd.prog 11 #[.slice FA fs.length fc] w (RankOk (needsF fs X) w) := by
  have hc := FldC.check_any fs X FA fc w (Nat.le_trans hm (by decide)) hf hX hT hcap
  rw [h0] at hc
  clear h0
  have hd : ∀ V : World, Below w.heap.size w V → Calls Tryd.prog 24 #[.slice FA fs.length fc] V (DirOut (needsF fs X) V) := fun V hV => direct_any fs X FA fc V hm (hf.below hV) (hX.below hV) (hT.below hV)
  have hok := needsF_ok fs X hm
  have hnl := needsF_len fs X
  obtain ⟨ns, hns⟩ : ∃ ns, needsF fs X = ns := ⟨_, rfl⟩
  rw [hns] at hd hok hnl hr ⊢
  have hix : Lib.idxOf (rankF ns) (-1) = -1 := idx_none fun i hi => by
    rw [rankF_len, hnl] at hi
    have := hr i hi
    omega
  have HC := Lib.hid hc
  have HD := Lib.hid hd
  have HI := Lib.hid hix
  have HNl := Lib.hid hnl
  clear hnl hc hns hf hX hT hd hix hr
  go_enter Tryd.func11, Tryd.ntmps11
  go_wp2_with fail
  refine HC.out.mono ?_; rintro e w1 ⟨rfl, hb⟩
  have HB := Lib.hid hb
  clear hb
  go_wp2_with fail
  refine (HD.out w1 HB.out).mono ?_; rintro e w2 ⟨A2, c2, rfl, hns2, hb2, -⟩
  have hrk := ranked_any ns A2 c2 w2 hok hns2
  have HR := Lib.hid hrk
  have HB2 := Lib.hid (b_trans HB.out hb2)
  clear hrk hns2 hb2
  go_wp2_with fail
  refine HR.out.mono ?_; rintro e w3 ⟨v3, rfl, hown3, hb3⟩
  have hown := own_base hown3 HB2.out.size
  have HB3 := Lib.hid (b_trans HB2.out hb3)
  have hin := index_any (rankF ns) (-1) v3 w.heap.size w3 (by rw [rankF_len, HNl.out]; omega) (by rw [rankF_len]; exact hown)
  rw [HI.out] at hin
  have HIn := Lib.hid hin
  have HO := Lib.hid hown
  clear hb3 hown3 hin hown
  go_wp2_with fail
  refine HIn.out.mono ?_; rintro e w4 ⟨rfl, rfl⟩
  go_wp2_with fail
  exact bodyPost_ret (v := .tuple #[v3, .slice none 0 0, .int .i64 0]) (by simp [results, Tryd.results11, go_sem]) rfl ⟨v3, rfl, HO.out, HB3.out⟩
end Go.Proofs.YtdndphagfohpnaaDoor.RkO
namespace Go.Proofs.YtdndphagfohpnaaDoor.FrmO
open Go.RowKit
open ValM LexM NumM ExM NmM Kit ExL ExP ExN ExC RawV Within RawL RawN GenL Gen GenT GenV FrmM Frm FldP FldR FldC FrmT TyM Ty TyG NmG NmO NmI NmT RkM RkD
set_option linter.unusedVariables false

def fdOf (v : FV) : GenL.Fd := ⟨v.nm, v.kind, v.ty, v.x.d, none, 0, 0⟩
theorem nts_fdOf (l : List FV) : nts (l.map fdOf) = fvs l := by unfold nts fvs; rw [List.map_map]; rfl
/-- What is made for a type has it, by any list that tells the same types. -/
theorem gn_ty2 {fs : List GenL.Fd} {G : List (ByteArray × Int)} (hfs : ∀ f ∈ fs, fieldT G f.nm = (f.ty, 0)) : ∀ (k : Nat) (kind : Int) (x : Ex), 1 ≤ kind → kind ≤ 3 → Gn fs k kind x → Ex.ty G x = (kind, 0) := by
  have leaf : ∀ (kind : Int) (d : Nd), 1 ≤ kind → kind ≤ 3 → LeafD fs kind d → Ex.ty G (.mk d []) = (kind, 0) := fun kind d h1 h3 hl => by
    rw [ty_mk, tyL_nil]
    unfold tyN
    rcases hl with ⟨g1, _, g3, _⟩ | ⟨g1, _, _, _, f, hf, g5, g6⟩
    · rw [if_pos g1, g3, vK_id h1 h3]
    · rw [if_neg (by omega), if_pos g1, ← g5, hfs f hf, g6]
  intro k
  induction k with
  | zero =>
    intro kind x h1 h3 h
    obtain ⟨d, rfl, hl⟩ := h
    exact leaf kind d h1 h3 hl
  | succ k ih =>
    intro kind x h1 h3 h
    rcases h with ⟨d, rfl, hl⟩ | ⟨op, ks, l, rfl, hop, hlen, hl⟩
    · exact leaf kind d h1 h3 hl
    · obtain ⟨e1, e2, e3, e4⟩ := opT_ty h1 h3 hop
      have hty : tyL G l = ks.map fun k => (k, (0 : Int)) := by
        rw [tyL_map]
        refine List.ext_getElem (by rw [List.length_map, List.length_map, hlen]) fun i hi hj => ?_
        rw [List.length_map] at hi hj
        rw [List.getElem_map, List.getElem_map]
        have hb := e2 ks[i] (List.getElem_mem hj)
        exact ih _ _ hb.1 hb.2 (hl i hi hj)
      rw [ty_mk, hty]
      unfold tyN
      rw [if_neg e3, if_neg e4, if_pos (errL_zero ks), List.map_map]
      have : (List.map ((fun p : Int × Int => p.1) ∘ fun k => (k, (0 : Int))) ks) = ks := by
        rw [show ((fun p : Int × Int => p.1) ∘ fun k : Int => (k, (0 : Int))) = id from rfl, List.map_id]
      rw [this]; exact e1
theorem fieldsV_take (rs : List Rw) : ∀ (n k : Nat), k ≤ n → (fieldsV rs n).1.take k = (fieldsV rs k).1
  | 0, k, h => by obtain rfl : k = 0 := by omega
                  rfl
  | n + 1, k, h => by
    by_cases e : k = n + 1
    · subst e; exact List.take_of_length_le (Nat.le_of_eq (fieldsV_len rs _))
    · have : (fieldsV rs (n + 1)).1 = (fieldsV rs n).1 ++ [_] := rfl
      rw [this, List.take_append_of_le_length (by rw [fieldsV_len]; omega)]
      exact fieldsV_take rs n k (by omega)
/-- The fields ahead of a base field, as the generator had them. -/
def aheadF (rs : List Rw) (i : Nat) : List GenL.Fd := ((baseV rs).take i).map fdOf
/-- A base field. -/
structure BaseF (rs : List Rw) (i : Nat) (f : FV) : Prop where
  nm : f.nm = nmK i
  kd : 1 ≤ f.kind ∧ f.kind ≤ 3
  ty : 1 ≤ f.ty ∧ f.ty ≤ 3
  inp : f.kind = 1 → f.x = zeroX
  fml : f.kind = 2 → Gn (aheadF rs i) 2 f.ty f.x
  lkp : f.kind = 3 → ∃ k, 1 ≤ k ∧ k ≤ 3 ∧ Gn (aheadF rs i) 1 k f.x
theorem base_at (rs : List Rw) (i : Nat) (h : i < (baseV rs).length) : BaseF rs i (baseV rs)[i] := by
  have hlen := baseV_len rs
  have key : ∀ (l : List FV) (z : FV) (h : l.length < (l ++ [z]).length), (l ++ [z])[l.length] = z := fun l z h => by simp
  have ht1 : (baseV rs).take (i + 1) = (fieldsV rs (i + 1)).1 := fieldsV_take rs _ _ (by omega)
  have ht : (baseV rs).take i = (fieldsV rs i).1 := fieldsV_take rs _ _ (by omega)
  have hli := fieldsV_len rs i
  obtain ⟨a, ha⟩ : ∃ a, (fieldsV rs i).2 = a := ⟨_, rfl⟩
  have e : (baseV rs)[i] = ⟨nmK i, 1 + pick (nextV rs a).k 3, 1 + pick (nextV rs a).y 3, (srcV rs (fieldsV rs i).1 a).1⟩ := by
    have h1 : (baseV rs)[i] = ((baseV rs).take (i + 1))[i]'(by rw [List.length_take]; omega) := by rw [List.getElem_take]
    have h2 : ((baseV rs).take (i + 1))[i]'(by rw [List.length_take]; omega) = (fieldsV rs (i + 1)).1[i]'(by rw [fieldsV_len]; omega) := by simp only [ht1]
    rw [h1, h2]
    have h3 : (fieldsV rs (i + 1)).1[i]'(by rw [fieldsV_len]; omega) = (fieldsV rs (i + 1)).1[(fieldsV rs i).1.length]'(by rw [fieldsV_len, fieldsV_len]; omega) := by congr 1; exact hli.symm
    rw [h3, ← ha]
    exact key _ _ (by simp)
  have hk := pick_bd (nextV rs a).k 3 (by decide)
  have hy := pick_bd (nextV rs a).y 3 (by decide)
  have hx := pick_bd (nextV rs a).x 3 (by decide)
  have hF : nts (aheadF rs i) = fvs (fieldsV rs i).1 := by unfold aheadF; rw [ht]; exact nts_fdOf _
  rw [e]
  refine ⟨rfl, ⟨by show 1 ≤ 1 + _; omega, by show 1 + _ ≤ 3; omega⟩, ⟨by show 1 ≤ 1 + _; omega, by show 1 + _ ≤ 3; omega⟩, fun h => ?_, fun h => ?_, fun h => ?_⟩
  · have h : 1 + pick (nextV rs a).k 3 = 1 := h
    show (srcV rs (fieldsV rs i).1 a).1 = _
    unfold srcV
    rw [if_neg (by omega), if_neg (by omega)]
  · have h : 1 + pick (nextV rs a).k 3 = 2 := h
    show Gn _ _ (1 + pick (nextV rs a).y 3) (srcV rs (fieldsV rs i).1 a).1
    unfold srcV
    rw [if_pos h, ← hF]
    exact exprV_gn 2 _ _
  · have h : 1 + pick (nextV rs a).k 3 = 3 := h
    refine ⟨1 + pick (nextV rs a).x 3, by omega, by omega, ?_⟩
    show Gn _ _ _ (srcV rs (fieldsV rs i).1 a).1
    unfold srcV
    rw [if_neg (by omega), if_pos h, ← hF]
    exact exprV_gn 1 _ _
theorem nmK_ok : ∀ i, i < 10 → nmB (nmK i).data.toList = true ∧ LexB.nameE (nmK i).data.toList = 0 := by decide
/-- The fields of a form, in some order. -/
structure OfBase (rs : List Rw) (fs : List GenL.Fd) (X : Nat → Ex) (π : Nat → Nat) : Prop where
  len : fs.length = countV rs
  lt : ∀ i, i < fs.length → π i < fs.length
  inj : ∀ i j, i < fs.length → j < fs.length → π i = π j → i = j
  sur : ∀ j, j < fs.length → ∃ i, i < fs.length ∧ π i = j
  at' : ∀ (i : Nat) (h : i < fs.length) (hb : π i < (baseV rs).length), fs[i].nm = (baseV rs)[π i].nm ∧ fs[i].kind = (baseV rs)[π i].kind ∧ fs[i].ty = (baseV rs)[π i].ty ∧ X i = (baseV rs)[π i].x ∧ (X i = zeroX → bareB fs[i].d fs[i].n = true)
namespace OfBase
variable {rs : List Rw} {fs : List GenL.Fd} {X : Nat → Ex} {π : Nat → Nat}
theorem ten (h : OfBase rs fs X π) : fs.length ≤ 10 := by rw [h.len]; exact (countV_bd rs).2
theorem bl (h : OfBase rs fs X π) {i : Nat} (hi : i < fs.length) : π i < (baseV rs).length := by rw [baseV_len, ← h.len]; exact h.lt i hi
theorem base (h : OfBase rs fs X π) (i : Nat) (hi : i < fs.length) : ∃ f, BaseF rs (π i) f ∧ fs[i].nm = f.nm ∧ fs[i].kind = f.kind ∧ fs[i].ty = f.ty ∧ X i = f.x ∧ (X i = zeroX → bareB fs[i].d fs[i].n = true) :=
  ⟨_, base_at rs (π i) (h.bl hi), h.at' i hi (h.bl hi)⟩
theorem nm (h : OfBase rs fs X π) (i : Nat) (hi : i < fs.length) : fs[i].nm = nmK (π i) := by
  obtain ⟨f, hf, h1, _⟩ := h.base i hi
  rw [h1, hf.nm]
theorem place (h : OfBase rs fs X π) (i : Nat) (hi : i < fs.length) : atF fs (nmK (π i)) = i := by
  refine atF_eq _ _ i hi (fun j hj hji e => ?_) (h.nm i hi)
  rw [h.nm j hj] at e
  have h1 := h.lt j hj
  have h2 := h.lt i hi
  have h3 := h.ten
  have := h.inj j i hj hi (nmK_inj _ (by omega) _ (by omega) e)
  omega
theorem ahead (h : OfBase rs fs X π) {i : Nat} (hi : i < fs.length) : ∀ f ∈ aheadF rs (π i), ∃ j, j < fs.length ∧ π j < π i ∧ f.nm = nmK (π j) ∧ nmB f.nm.data.toList = true ∧ fieldT (fts fs) f.nm = (f.ty, 0) := fun f hf => by
  unfold aheadF at hf
  obtain ⟨v, hv, rfl⟩ := List.mem_map.1 hf
  obtain ⟨m, hm, rfl⟩ := List.getElem_of_mem hv
  rw [List.length_take, baseV_len] at hm
  rw [List.getElem_take]
  have hml : m < (baseV rs).length := by rw [baseV_len]; omega
  have hb := base_at rs m hml
  have hl := h.len
  obtain ⟨j, hj, e⟩ := h.sur m (by omega)
  have h10 := h.ten
  have hnm : (fdOf (baseV rs)[m]).nm = nmK m := hb.nm
  refine ⟨j, hj, by omega, by rw [hnm, e], by rw [hnm]; exact (nmK_ok m (by omega)).1, ?_⟩
  have hT := fieldT_fts (fs := fs) (s := nmK m) hj (fun q hq hqj eq => by
    rw [h.nm q hq] at eq
    have := h.inj q j hq hj (nmK_inj _ (by have := h.lt q hq; omega) _ (by omega) (eq.trans (by rw [e])))
    omega) (by rw [h.nm j hj, e])
  rw [hnm, hT]
  have h3 := (h.at' j hj (h.bl hj)).2.2.1
  have h4 : (baseV rs)[π j]'(h.bl hj) = (baseV rs)[m]'(by rw [baseV_len]; omega) := by simp only [e]
  rw [h3, h4]; rfl
/-- The source of each field that has one may be, is of its type, and refers to fields ahead alone. -/
theorem src (h : OfBase rs fs X π) (i : Nat) (hi : i < fs.length) (hk : fs[i].kind ≠ 1) : (X i).checkE = 0 ∧ (∃ k, Ex.ty (fts fs) (X i) = (k, 0) ∧ (fs[i].kind = 2 → k = fs[i].ty)) ∧ ∀ s ∈ Ex.refs (X i), ∃ j, j < fs.length ∧ π j < π i ∧ s = nmK (π j) := by
  obtain ⟨f, hf, _, h2, h3, h4, _⟩ := h.base i hi
  have ha := h.ahead hi
  have key : ∀ (n : Nat) (k : Int) (x : Ex), n ≤ 2 → 1 ≤ k → k ≤ 3 → Gn (aheadF rs (π i)) n k x → x.checkE = 0 ∧ Ex.ty (fts fs) x = (k, 0) ∧ ∀ s ∈ Ex.refs x, ∃ j, j < fs.length ∧ π j < π i ∧ s = nmK (π j) := fun n k x hn h1 h2 hg => by
    obtain ⟨g1, g2, g3⟩ := gn_ok (fun f hf => by obtain ⟨_, _, _, _, h, _⟩ := ha f hf; exact h) n k x hg
    have hb : nb n ≤ nb 2 := by
      rcases (by omega : n = 0 ∨ n = 1 ∨ n = 2) with rfl | rfl | rfl <;> decide
    have e2 : nb 2 = 13 := rfl
    refine ⟨by rw [checkE_ok (by omega) (by omega)]; exact g1, gn_ty2 (fun f hf => by obtain ⟨_, _, _, _, _, h⟩ := ha f hf; exact h) n k x h1 h2 hg, fun s hs => ?_⟩
    obtain ⟨f, hf, e⟩ := gn_refs n k x hg s hs
    obtain ⟨j, q1, q2, q3, _⟩ := ha f hf
    exact ⟨j, q1, q2, by rw [← e, q3]⟩
  rw [h2] at hk
  have hkd := hf.kd
  by_cases h2k : f.kind = 2
  · obtain ⟨a, b, c⟩ := key 2 f.ty f.x (by omega) hf.ty.1 hf.ty.2 (hf.fml h2k)
    rw [h4]
    exact ⟨a, ⟨f.ty, b, fun _ => h3.symm⟩, c⟩
  · obtain ⟨k, k1, k3, hg⟩ := hf.lkp (by omega)
    obtain ⟨a, b, c⟩ := key 1 k f.x (by omega) k1 k3 hg
    rw [h4]
    exact ⟨a, ⟨k, b, fun e => absurd (h2.symm.trans e) h2k⟩, c⟩
theorem kinds (h : OfBase rs fs X π) (i : Nat) (hi : i < fs.length) : 1 ≤ fs[i].kind ∧ fs[i].kind ≤ 3 ∧ 1 ≤ fs[i].ty ∧ fs[i].ty ≤ 3 := by
  obtain ⟨f, hf, _, h2, h3, _⟩ := h.base i hi
  rw [h2, h3]; exact ⟨hf.kd.1, hf.kd.2, hf.ty.1, hf.ty.2⟩
/-- P9.3 holds of them. -/
theorem check (h : OfBase rs fs X π) : checkF fs X = 0 := by
  have h10 := h.ten
  have hr : ∀ (i : Nat) (hi : i < fs.length), rightE fs[i] (X i) = 0 := fun i hi => by
    obtain ⟨f, hf, h1, h2, h3, h4, h5⟩ := h.base i hi
    obtain ⟨a, b, c, d⟩ := h.kinds i hi
    have hn : LexB.nameE fs[i].nm.data.toList = 0 := by rw [h.nm i hi]; exact (nmK_ok _ (by have := h.lt i hi; omega)).2
    unfold rightE
    rw [if_neg (fun g => g hn), if_pos ⟨isT_iff.2 ⟨a, b⟩, isT_iff.2 ⟨c, d⟩⟩]
    by_cases hk : fs[i].kind = 1
    · rw [if_pos hk, if_pos (h5 (by rw [h4]; exact hf.inp (by rw [← h2]; exact hk)))]
    · rw [if_neg hk]; exact (h.src i hi hk).1
  have h1 : ∀ j, j < fs.length → ownE fs X j = 0 := fun j hj => by
    unfold ownE
    rw [dif_pos hj, if_pos (hr j hj), h.nm j hj, h.place j hj, if_neg (Nat.lt_irrefl _)]
  have h2 : ∀ j, j < fs.length → typE fs X j = 0 := fun j hj => by
    unfold typE srcE
    rw [dif_pos hj]
    by_cases hk : fs[j].kind = 1
    · rw [if_neg (by omega), if_neg (by omega)]
    · obtain ⟨c1, ⟨k, c2, c3⟩, _⟩ := h.src j hj hk
      have ho := ofT_ty (fs := fts fs) c1
      by_cases h2 : fs[j].kind = 2
      · rw [if_pos h2]
        unfold fitsT
        rw [ho, c2, if_pos rfl, if_pos (c3 h2)]
      · rw [if_neg h2]
        obtain ⟨_, b, _⟩ := h.kinds j hj
        split
        · rw [ho, c2]
        · rfl
  unfold checkF
  rw [if_neg (by omega), scan_zero _ h1, if_pos rfl, scan_zero _ h2]
/-- Each needs fields that were made ahead of it. -/
theorem needs (h : OfBase rs fs X π) (i : Nat) (hi : i < fs.length) : ∀ j ∈ nd (needsF fs X) i, j < fs.length ∧ π j < π i := fun j hj => by
  rw [needsF_nd _ _ _ hi] at hj
  unfold needF at hj
  rw [dif_pos hi] at hj
  by_cases hk : fs[i].kind = 1
  · rw [if_pos hk] at hj; simp at hj
  · rw [if_neg hk] at hj
    obtain ⟨c1, _, c3⟩ := h.src i hi hk
    obtain ⟨s, hs, rfl⟩ := List.mem_map.1 hj
    have hs2 : s ∈ Ex.refs (X i) := by
      have e := bytes_refs (Ex.refs (X i))
      unfold ofL at hs
      rw [if_pos c1] at hs
      unfold mkL at hs e
      obtain ⟨b, hb, rfl⟩ := List.mem_map.1 hs
      rw [rise_mem] at hb
      rw [← e]
      exact List.mem_map.2 ⟨b, hb, rfl⟩
    obtain ⟨q, q1, q2, q3⟩ := c3 s hs2
    have : plN fs s = q := by unfold plN; rw [q3, h.place q q1, if_pos q1]
    rw [this]; exact ⟨q1, q2⟩
end OfBase
/-- The fields of a form as they lie there. -/
def xOf (es : List FE) (k : Nat) : Ex := (es[k]?.map FE.x).getD zeroX
theorem xOf_at (es : List FE) (k : Nat) (h : k < es.length) : xOf es k = es[k].x := by unfold xOf; rw [List.getElem?_eq_getElem h]; rfl
theorem bare_zero {P : Nat → Prop} {w : World} {d : Nd} {A : Option Addr} {n : Nat} (h : IsP P w zeroX d A n) : bareB d n = true := by
  unfold zeroX at h
  rw [IsP] at h
  obtain ⟨rfl, rfl, _⟩ := h
  decide
theorem form_base {rs : List Rw} {es : List FE} {P : Nat → Prop} {w : World} {A : Option Addr} (h : es.map FE.v = formF rs) (hr : FRow P w A es) : OfBase rs (es.map FE.fd) (xOf es) (plc rs) := by
  obtain ⟨hc, _, _⟩ := form_places h
  have hl : (es.map FE.fd).length = countV rs := by rw [List.length_map, hc]
  refine ⟨hl, fun i hi => by rw [hl] at hi ⊢; exact plc_lt rs i hi, fun i j hi hj e => by rw [hl] at hi hj; exact plc_inj rs i j hi hj e, fun j hj => ?_, fun i hi hb => ?_⟩
  · rw [hl] at hj ⊢
    refine ⟨plc rs j, plc_lt rs j hj, ?_⟩
    unfold plc; split <;> omega
  · have hi' : i < es.length := by simpa using hi
    have hj : i < (formF rs).length := by rw [formF_len, ← hl]; exact hi
    have e := fe_at h i hi' hj
    rw [formF_at rs i hj] at e
    rw [List.getElem_map, xOf_at es i hi']
    obtain ⟨g, _, _, _, his⟩ := hr i hi'
    refine ⟨congrArg FV.nm e, congrArg FV.kind e, congrArg FV.ty e, congrArg FV.x e, fun hz => ?_⟩
    show bareB es[i].x.d es[i].m = true
    rw [hz] at his ⊢
    exact bare_zero his
theorem form_forms {rs : List Rw} {es : List FE} {P : Nat → Prop} {w : World} {A : Option Addr} (h : es.map FE.v = formF rs) (hr : FRow P w A es) : Forms w (es.map FE.fd) (xOf es) := fun k hk => by
  have hk' : k < es.length := by simpa using hk
  obtain ⟨g, _, _, _, his⟩ := hr k hk'
  rw [List.getElem_map, xOf_at es k hk']
  refine ⟨?_, IsP.is _ _ _ _ his⟩
  have := ((form_places h).2.1 k hk').2
  show es[k].nm.size ≤ maxLen
  unfold maxLen; omega
end Go.Proofs.YtdndphagfohpnaaDoor.FrmO
namespace Go.Proofs.YtdndphagfohpnaaDoor.RkS
open Go.RowKit
open ValM LexM NumM ExM NmM Kit ExL ExP ExN ExC RawV Within RawL RawN GenL Gen GenT GenV FrmM Frm FldP FldR FldC FrmT FrmO TyM Ty TyG NmG NmO NmI NmR RkM RkA RkB RkC RkD RkO
set_option linter.unusedVariables false

def sx0 : Ex := .mk ⟨8, 0, 0, ⟨#[]⟩, ⟨#[]⟩⟩ [.mk ⟨2, 0, 0, ⟨#[]⟩, ⟨#[97]⟩⟩ [], .mk ⟨1, 1, 1, ⟨#[]⟩, ⟨#[]⟩⟩ []]
def sx2 : Ex := .mk ⟨2, 0, 0, ⟨#[]⟩, ⟨#[98]⟩⟩ []
theorem sx0_check : sx0.checkE = 0 := by
  rw [checkE_ok (by unfold sx0; simp [nodes_mk, nodesL_cons, nodesL_nil]) (by unfold sx0; simp [depth_mk, depthL_cons, depthL_nil])]
  unfold sx0
  simp only [pre_mk, preL_cons, preL_nil, List.nil_append, List.append_nil, List.cons_append, List.length_cons, List.length_nil]
  decide
theorem sx2_check : sx2.checkE = 0 := by
  rw [checkE_ok (by unfold sx2; simp [nodes_mk, nodesL_nil]) (by unfold sx2; simp [depth_mk, depthL_nil])]
  unfold sx2
  simp only [pre_mk, preL_nil, List.length_nil]
  decide
theorem sx0_refs : Ex.refs sx0 = [⟨#[97]⟩] := by
  unfold sx0
  rw [refs_mk_neg _ _ (by decide), refsL_cons, refsL_cons, refsL_nil, refs_mk_pos _ _ rfl, refs_mk_neg _ _ (by decide), refsL_nil]; rfl
theorem sx2_refs : Ex.refs sx2 = [⟨#[98]⟩] := by
  unfold sx2
  rw [refs_mk_pos _ _ rfl, refsL_nil]
theorem sx0_ty (G : List (ByteArray × Int)) (h : fieldT G ⟨#[97]⟩ = (1, 0)) : Ex.ty G sx0 = (1, 0) := by
  unfold sx0
  rw [ty_mk, tyL_cons, tyL_cons, tyL_nil, ty_mk, ty_mk, tyL_nil]
  have e1 : tyN G ⟨2, 0, 0, ⟨#[]⟩, ⟨#[97]⟩⟩ [] = (1, 0) := by unfold tyN; rw [if_neg (by decide), if_pos rfl, h]
  rw [e1]
  show tyN G _ [(1, 0), (1, 0)] = _
  unfold tyN
  rw [if_neg (by decide), if_neg (by decide)]
  decide
theorem sx2_ty (G : List (ByteArray × Int)) (t : Int) (h : fieldT G ⟨#[98]⟩ = (t, 0)) : Ex.ty G sx2 = (t, 0) := by
  unfold sx2
  rw [ty_mk]
  unfold tyN
  rw [if_neg (by decide), if_pos rfl, h]
/-- What is wanted of the three fields. -/
theorem small_all {es : List FE} {P : Nat → Prop} {w : World} {A : Option Addr} (h : es.map FE.v = smallV) (hr : FRow P w A es) :
    Forms w (es.map FE.fd) (xOf es) ∧ checkF (es.map FE.fd) (xOf es) = 0 ∧ needsF (es.map FE.fd) (xOf es) = [[1], [], [0]] := by
  have hl := small_len h
  match es, h, hl with
  | [a, b, c], h, _ =>
    simp only [List.map_cons, List.map_nil, smallV, List.cons.injEq, and_true] at h
    obtain ⟨h1, h2, h3⟩ := h
    have n1 : a.nm = ⟨#[98]⟩ := congrArg FV.nm h1
    have n2 : b.nm = ⟨#[97]⟩ := congrArg FV.nm h2
    have n3 : c.nm = ⟨#[99]⟩ := congrArg FV.nm h3
    have k1 : a.kind = 2 := congrArg FV.kind h1
    have k2 : b.kind = 1 := congrArg FV.kind h2
    have k3 : c.kind = 3 := congrArg FV.kind h3
    have t1 : a.ty = 1 := congrArg FV.ty h1
    have t2 : b.ty = 1 := congrArg FV.ty h2
    have t3 : c.ty = 3 := congrArg FV.ty h3
    have x1 : a.x = sx0 := congrArg FV.x h1
    have x2 : b.x = zeroX := congrArg FV.x h2
    have x3 : c.x = sx2 := congrArg FV.x h3
    have hX0 : xOf [a, b, c] 0 = sx0 := x1
    have hX1 : xOf [a, b, c] 1 = zeroX := x2
    have hX2 : xOf [a, b, c] 2 = sx2 := x3
    have hb : bareB b.x.d b.m = true := by
      obtain ⟨g, _, _, _, his⟩ := hr 1 (by simp)
      have his : IsP P w b.x b.x.d b.B b.m := his
      rw [x2] at his ⊢
      exact bare_zero his
    have d1 : ¬ (⟨#[98]⟩ : ByteArray) = ⟨#[97]⟩ := by decide
    have d2 : ¬ (⟨#[98]⟩ : ByteArray) = ⟨#[99]⟩ := by decide
    have d3 : ¬ (⟨#[97]⟩ : ByteArray) = ⟨#[99]⟩ := by decide
    have p97 : atF [a.fd, b.fd, c.fd] ⟨#[97]⟩ = 1 := by
      show atF (⟨a.nm, _, _, _, _, _, _⟩ :: ⟨b.nm, _, _, _, _, _, _⟩ :: _) _ = 1
      rw [n1, n2]; unfold atF; rw [if_neg d1]; unfold atF; rw [if_pos rfl]
    have p98 : atF [a.fd, b.fd, c.fd] ⟨#[98]⟩ = 0 := by
      show atF (⟨a.nm, _, _, _, _, _, _⟩ :: _) _ = 0
      rw [n1]; unfold atF; rw [if_pos rfl]
    have p99 : atF [a.fd, b.fd, c.fd] ⟨#[99]⟩ = 2 := by
      show atF (⟨a.nm, _, _, _, _, _, _⟩ :: ⟨b.nm, _, _, _, _, _, _⟩ :: ⟨c.nm, _, _, _, _, _, _⟩ :: _) _ = 2
      rw [n1, n2, n3]; unfold atF; rw [if_neg d2]; unfold atF; rw [if_neg d3]; unfold atF; rw [if_pos rfl]
    have f97 : fieldT (fts [a.fd, b.fd, c.fd]) ⟨#[97]⟩ = (1, 0) := by
      show fieldT ((a.nm, a.ty) :: (b.nm, b.ty) :: _) _ = _
      rw [n1, n2, t2]; unfold fieldT; rw [if_neg d1]; unfold fieldT; rw [if_pos rfl]
    have f98 : fieldT (fts [a.fd, b.fd, c.fd]) ⟨#[98]⟩ = (1, 0) := by
      show fieldT ((a.nm, a.ty) :: _) _ = _
      rw [n1, t1]; unfold fieldT; rw [if_pos rfl]
    have hF : Forms w ([a, b, c].map FE.fd) (xOf [a, b, c]) := fun k hk => by
      have hk' : k < 3 := by simpa using hk
      obtain ⟨g, _, _, _, his⟩ := hr k (by simpa using hk)
      rw [List.getElem_map, xOf_at _ _ (by simpa using hk)]
      refine ⟨?_, IsP.is _ _ _ _ his⟩
      obtain rfl | rfl | rfl : k = 0 ∨ k = 1 ∨ k = 2 := by omega
      · show a.nm.size ≤ _; rw [n1]; decide
      · show b.nm.size ≤ _; rw [n2]; decide
      · show c.nm.size ≤ _; rw [n3]; decide
    refine ⟨hF, ?_, ?_⟩
    · have hr0 : rightE a.fd sx0 = 0 := by
        show rightE ⟨a.nm, a.kind, a.ty, _, _, _, _⟩ _ = 0
        rw [n1, k1, t1]; unfold rightE
        rw [if_neg (show ¬ LexB.nameE (⟨#[98]⟩ : ByteArray).data.toList ≠ 0 by decide), if_pos (show isT 2 = true ∧ isT 1 = true by decide), if_neg (show ¬ (2 : Int) = 1 by decide)]; exact sx0_check
      have hr1 : rightE b.fd zeroX = 0 := by
        show rightE ⟨b.nm, b.kind, b.ty, b.x.d, _, b.m, _⟩ _ = 0
        rw [n2, k2, t2]; unfold rightE
        rw [if_neg (show ¬ LexB.nameE (⟨#[97]⟩ : ByteArray).data.toList ≠ 0 by decide), if_pos (show isT 1 = true ∧ isT 1 = true by decide), if_pos rfl, if_pos hb]
      have hr2 : rightE c.fd sx2 = 0 := by
        show rightE ⟨c.nm, c.kind, c.ty, _, _, _, _⟩ _ = 0
        rw [n3, k3, t3]; unfold rightE
        rw [if_neg (show ¬ LexB.nameE (⟨#[99]⟩ : ByteArray).data.toList ≠ 0 by decide), if_pos (show isT 3 = true ∧ isT 3 = true by decide), if_neg (show ¬ (3 : Int) = 1 by decide)]; exact sx2_check
      have o : ∀ j, j < 3 → ownE [a.fd, b.fd, c.fd] (xOf [a, b, c]) j = 0 := fun j hj => by
        unfold ownE
        rw [dif_pos (show j < [a.fd, b.fd, c.fd].length from hj)]
        match j, hj with
        | 0, _ => show (if rightE a.fd (xOf [a, b, c] 0) = 0 then (if atF _ a.nm < 0 then (6 : Int) else 0) else _) = 0; rw [hX0, if_pos hr0, if_neg (by omega)]
        | 1, _ => show (if rightE b.fd (xOf [a, b, c] 1) = 0 then (if atF _ b.nm < 1 then (6 : Int) else 0) else _) = 0; rw [hX1, if_pos hr1, n2, p97, if_neg (by decide)]
        | 2, _ => show (if rightE c.fd (xOf [a, b, c] 2) = 0 then (if atF _ c.nm < 2 then (6 : Int) else 0) else _) = 0; rw [hX2, if_pos hr2, n3, p99, if_neg (by decide)]
      have t : ∀ j, j < 3 → typE [a.fd, b.fd, c.fd] (xOf [a, b, c]) j = 0 := fun j hj => by
        unfold typE
        rw [dif_pos (show j < [a.fd, b.fd, c.fd].length from hj)]
        match j, hj with
        | 0, _ =>
          show srcE _ a.fd (xOf [a, b, c] 0) = 0
          unfold srcE
          show (if a.kind = 2 then fitsT _ _ a.ty else _) = 0
          rw [if_pos k1, hX0, t1]; unfold fitsT
          rw [ofT_ty sx0_check, sx0_ty _ f97]; rfl
        | 1, _ =>
          show srcE _ b.fd (xOf [a, b, c] 1) = 0
          unfold srcE
          show (if b.kind = 2 then _ else if b.kind = 3 then _ else (0 : Int)) = 0
          rw [k2, if_neg (by decide), if_neg (by decide)]
        | 2, _ =>
          show srcE _ c.fd (xOf [a, b, c] 2) = 0
          unfold srcE
          show (if c.kind = 2 then _ else if c.kind = 3 then (ofT _ _).2 else (0 : Int)) = 0
          rw [k3, if_neg (by decide), if_pos rfl, hX2, ofT_ty sx2_check, sx2_ty _ _ f98]
      show checkF [a.fd, b.fd, c.fd] (xOf [a, b, c]) = 0
      unfold checkF
      rw [if_neg (by show ¬ 14 < 3; decide)]
      show (if scan (ownE [a.fd, b.fd, c.fd] (xOf [a, b, c])) 3 = 0 then scan (typE [a.fd, b.fd, c.fd] (xOf [a, b, c])) 3 else _) = 0
      rw [scan_zero 3 o, if_pos rfl, scan_zero 3 t]
    · show [needF [a.fd, b.fd, c.fd] (xOf [a, b, c]) 0, needF [a.fd, b.fd, c.fd] (xOf [a, b, c]) 1, needF [a.fd, b.fd, c.fd] (xOf [a, b, c]) 2] = _
      have e0 : needF [a.fd, b.fd, c.fd] (xOf [a, b, c]) 0 = [1] := by
        unfold needF
        rw [dif_pos (by show 0 < 3; decide)]
        show (if a.kind = 1 then [] else _) = _
        rw [k1, if_neg (by decide), hX0]
        have : mkL (ofL sx0) = [⟨#[97]⟩] := by unfold ofL; rw [if_pos sx0_check, sx0_refs]; decide
        rw [this]
        show [plN [a.fd, b.fd, c.fd] ⟨#[97]⟩] = _
        unfold plN; rw [p97]; rfl
      have e1 : needF [a.fd, b.fd, c.fd] (xOf [a, b, c]) 1 = [] := by
        unfold needF
        rw [dif_pos (by show 1 < 3; decide)]
        show (if b.kind = 1 then [] else _) = _
        rw [k2, if_pos rfl]
      have e2 : needF [a.fd, b.fd, c.fd] (xOf [a, b, c]) 2 = [0] := by
        unfold needF
        rw [dif_pos (by show 2 < 3; decide)]
        show (if c.kind = 1 then [] else _) = _
        rw [k3, if_neg (by decide), hX2]
        have : mkL (ofL sx2) = [⟨#[98]⟩] := by unfold ofL; rw [if_pos sx2_check, sx2_refs]; decide
        rw [this]
        show [plN [a.fd, b.fd, c.fd] ⟨#[98]⟩] = _
        unfold plN; rw [p98]; rfl
      rw [e0, e1, e2]
theorem small_rank : rankF [[1], [], [0]] = [1, 0, 2] := by decide
end Go.Proofs.YtdndphagfohpnaaDoor.RkS
namespace Go.Proofs.YtdndphagfohpnaaDoor.RkK
open Go.RowKit
open ValM LexM NumM ExM NmM Kit ExL ExP ExN ExC RawV Within RawL RawN GenL Gen GenT GenV FrmM Frm FldP FldR FldC FrmT FrmO TyM Ty TyG NmG NmO NmI NmR RkM RkA RkB RkC RkD RkO RkS
set_option linter.unusedVariables false

/-- A row of numbers that is told by its block. -/
def RankAt (ns : List (List Nat)) (n : Nat) (w : World) (e : Ending) (w' : World) : Prop :=
  ∃ g cap, e = .returned (.tuple #[.slice (some ⟨g, 0, none⟩) n cap, .slice none 0 0, .int .i64 0]) ∧ (∀ j, j < n → w'.cell? ⟨g, j, none⟩ = some (.int .i64 (rk (rankF ns) j))) ∧ w.heap.size ≤ g ∧ Below w.heap.size w w'
theorem RankOk.at {ns : List (List Nat)} {n : Nat} (hn : ns.length = n) (h0 : 0 < n) {w : World} {e : Ending} {w' : World} (h : RankOk ns w e w') : RankAt ns n w e w' := by
  obtain ⟨v, rfl, hown, hb⟩ := h
  subst hn
  obtain ⟨g, cap, rfl, hg, _, _, _, hc⟩ := GenL.own_form hown h0
  exact ⟨g, cap, rfl, fun j hj => by rw [hc j (by omega), iV_at _ _ (by rw [rankF_len]; exact hj)], hg, hb⟩
/-- What rank.Of says of a form's fields. -/
structure FormRank (rs : List Rw) (es : List FE) (FA : Option Addr) (fc : Nat) (w : World) : Prop where
  of : ∀ V : World, Below w.heap.size w V → Calls Tryd.prog 11 #[.slice FA es.length fc] V (RankAt (needsF (es.map FE.fd) (xOf es)) es.length V)
  base : OfBase rs (es.map FE.fd) (xOf es) (plc rs)
  flds : Flds w FA (es.map FE.fd)
  forms : Forms w (es.map FE.fd) (xOf es)
  ge : ∀ i, i < es.length → 0 ≤ rk (rankF (needsF (es.map FE.fd) (xOf es))) i ∧ rk (rankF (needsF (es.map FE.fd) (xOf es))) i ≤ (plc rs i : Int)
  len : es.length = countV rs
theorem form_rank {rs : List Rw} {es : List FE} {P : Nat → Prop} {w : World} {FA : Option Addr} {fc : Nat} (h : es.map FE.v = formF rs) (hr : FRow P w FA es) (hcap : es.length ≤ fc ∧ fc ≤ maxLen) (hT : Tab w) : FormRank rs es FA fc w := by
  have hB := form_base h hr
  have hl : (es.map FE.fd).length = es.length := List.length_map _
  have hlen : es.length = countV rs := (form_places h).1
  have hge : ∀ i, i < es.length → 0 ≤ rk (rankF (needsF (es.map FE.fd) (xOf es))) i ∧ rk (rankF (needsF (es.map FE.fd) (xOf es))) i ≤ (plc rs i : Int) := fun i hi => by
    refine rankF_ok (m := plc rs) (fun k hk j hj => ?_) _ i (Nat.le_refl _) (by rw [needsF_len, hl]; exact hi)
    rw [needsF_len] at hk ⊢
    exact hB.needs k hk j hj
  refine ⟨fun V hV => ?_, hB, frow_flds hr, form_forms h hr, hge, hlen⟩
  have h10 := hB.ten
  have := of_ok (es.map FE.fd) (xOf es) FA fc V (by omega) ((frow_flds hr).below hV) ((form_forms h hr).below hV) (hT.below hV) (by rw [hl]; exact hcap) hB.check (fun i hi => (hge i (by omega)).1)
  rw [hl] at this
  exact this.mono fun e w' hh => RankOk.at (by rw [needsF_len, hl]) (by have := (countV_bd rs).1; omega) hh
theorem eq_three (W : World) (g cap B : Nat) (h1 : ∀ j, j < 3 → W.cell? ⟨g, j, none⟩ = some (.int .i64 (rk [1, 0, 2] j))) (h2 : ∀ j, j < 3 → W.cell? ⟨B, j, none⟩ = some (.int .i64 (rk [1, 0, 2] j))) :
    Calls Tryd.prog 29 #[.slice (some ⟨g, 0, none⟩) 3 cap, .slice (some ⟨B, 0, none⟩) 3 3] W fun e w' => e = .returned (.bool true) ∧ ∃ q, w' = W.drewN q := by
  have := Tryd.slices_Equal_int g 0 3 cap B 0 3 3 [1, 0, 2] [1, 0, 2] W (by decide) (by decide) (by decide) (by decide) (fun j hj => by rw [Nat.zero_add]; exact h1 j hj) (fun j hj => by rw [Nat.zero_add]; exact h2 j hj)
  exact this
set_option maxRecDepth 100000 in
set_option maxHeartbeats 4000000 in
theorem ranked_any (w : World) (hT : Tab w) : Calls Tryd.prog 12 #[] w fun e w' => e = .returned (.bool true) ∧ Below w.heap.size w w' := by
  have hf0 := @fld0
  have HT := Lib.hid hT
  clear hT
  go_enter Tryd.func12, Tryd.ntmps12
  go_wp2_with fail
  refine (small_any _).mono ?_; rintro e w1 ⟨es, FA, fc, ps, PA, pc, rfl, hv, hpv, hfr, hpr, hb, hcap, -⟩
  obtain ⟨hF, hck, hnd⟩ := small_all hv hfr
  have hl : (es.map FE.fd).length = es.length := List.length_map _
  have h3 := small_len hv
  have hof := of_ok (es.map FE.fd) (xOf es) FA fc w1 (by rw [hl, h3]; decide) (frow_flds hfr) hF (HT.out.below hb) (by rw [hl]; exact hcap) hck (fun i hi => by
    rw [hnd, small_rank]
    rw [hl, h3] at hi
    obtain rfl | rfl | rfl : i = 0 ∨ i = 1 ∨ i = 2 := by omega
    all_goals decide)
  rw [hnd, hl, h3] at hof
  rw [h3]
  have HOf := Lib.hid hof
  have HB := Lib.hid hb
  clear hof hb hv hpv hfr hpr hF hck hnd hl h3 hcap
  go_wp2_with fail
  refine HOf.out.mono ?_; rintro e w2 h2
  obtain ⟨g, cap, rfl, hc, hg, hb2⟩ := RankOk.at (n := 3) rfl (by decide) h2
  rw [small_rank] at hc
  have hgl : g < w2.heap.size := World.block_lt_of_cell? w2 _ (hc 0 (by decide))
  obtain ⟨W3, hW3⟩ : ∃ V, w2.alloc (.cells #[.int .i64 1, .int .i64 0, .int .i64 2] 3) = V := ⟨_, rfl⟩
  have hb3 := b_new w2 (.cells #[.int .i64 1, .int .i64 0, .int .i64 2] 3)
  have hn3 := World.alloc_heap_new w2 (.cells #[.int .i64 1, .int .i64 0, .int .i64 2] 3)
  rw [hW3] at hb3 hn3
  have heq := eq_three W3 g cap w2.heap.size (fun j hj => (hb3.cell (p := ⟨g, j, none⟩) hgl).trans (hc j hj)) (fun j hj => by
    obtain rfl | rfl | rfl : j = 0 ∨ j = 1 ∨ j = 2 := by omega
    all_goals simp [World.cell?, hn3, rk])
  have HEq := Lib.hid heq
  have HB3 := Lib.hid (b_trans HB.out (b_trans hb2 hb3))
  have HW3 := Lib.hid hW3
  clear heq hb2 hb3 hn3 hc h2 hW3
  go_wp2_with (go_at_call 29; rw [HW3.out]; refine HEq.out.mono ?_; rintro e w4 ⟨rfl, q, rfl⟩)
  go_ret
  exact ⟨rfl, b_drewN HB3.out _⟩
theorem min_at {r : List Int} : ∀ k, 0 < k → k ≤ r.length → (∀ j, j < k → Lib.minOf (r.take k) ≤ rk r j) ∧ ∃ j, j < k ∧ Lib.minOf (r.take k) = rk r j
  | 0, h, _ => absurd h (by omega)
  | 1, _, hl => by
    rw [Lib.minOf_one]
    exact ⟨fun j hj => by obtain rfl : j = 0 := by omega
                          exact Int.le_refl _, 0, by omega, rfl⟩
  | k + 2, _, hl => by
    obtain ⟨h1, j, hj, h2⟩ := min_at (r := r) (k + 1) (by omega) (by omega)
    rw [Lib.minOf_step r (k + 1) (by omega) (by omega)]
    have e : r.getD (k + 1) 0 = rk r (k + 1) := rfl
    rw [e]
    refine ⟨fun i hi => ?_, ?_⟩
    · by_cases e : i = k + 1
      · subst e; omega
      · have := h1 i (by omega); omega
    · by_cases hm : Lib.minOf (r.take (k + 1)) ≤ rk r (k + 1)
      · exact ⟨j, by omega, by omega⟩
      · exact ⟨k + 1, by omega, by omega⟩
theorem max_at {r : List Int} : ∀ k, 0 < k → k ≤ r.length → ∃ j, j < k ∧ Lib.maxOf (r.take k) = rk r j
  | 0, h, _ => absurd h (by omega)
  | 1, _, hl => by
    rw [Lib.maxOf_one]
    exact ⟨0, by omega, rfl⟩
  | k + 2, _, hl => by
    obtain ⟨j, hj, h2⟩ := max_at (r := r) (k + 1) (by omega) (by omega)
    rw [Lib.maxOf_step r (k + 1) (by omega) (by omega)]
    have e : r.getD (k + 1) 0 = rk r (k + 1) := rfl
    rw [e]
    by_cases hm : rk r (k + 1) ≤ Lib.maxOf (r.take (k + 1))
    · exact ⟨j, by omega, by omega⟩
    · exact ⟨k + 1, by omega, by omega⟩
end Go.Proofs.YtdndphagfohpnaaDoor.RkK
namespace Go.Proofs.YtdndphagfohpnaaDoor.RkR
open Go.RowKit
open ValM LexM NumM ExM NmM Kit ExL ExP ExN ExC RawV Within RawL RawN GenL Gen GenT GenV FrmM Frm FldP FldR FldC FrmT FrmO TyM Ty TyG NmG NmO NmI NmT NmR NmV RkM RkA RkB RkC RkD RkO RkS RkK
set_option linter.unusedVariables false

/-- What the statement's inner loop counts up to a place. -/
def mostK (C : Nat → Bool) (r : List Int) : Nat → Int
  | 0 => 0
  | k + 1 => if C k = true then max (mostK C r k) (rk r k + 1) else mostK C r k
theorem most_mx {C : Nat → Bool} {r : List Int} (hr : ∀ i, -1 ≤ rk r i) : ∀ k, Mx r (fun j => j < k ∧ C j = true) (mostK C r k)
  | 0 => ⟨Int.le_refl _, fun j h => absurd h.1 (by omega), .inl rfl⟩
  | k + 1 => by
    obtain ⟨h1, h2, h3⟩ := most_mx (C := C) hr k
    have hk := hr k
    unfold mostK
    by_cases hc : C k = true
    · rw [if_pos hc]
      refine ⟨by omega, fun j hj => ?_, ?_⟩
      · by_cases e : j = k
        · subst e; omega
        · have := h2 j ⟨by omega, hj.2⟩; omega
      · by_cases hm : mostK C r k ≤ rk r k + 1
        · exact .inr ⟨k, ⟨by omega, hc⟩, by omega⟩
        · rcases h3 with h3 | ⟨j, hj, e⟩
          · exact .inl (by omega)
          · exact .inr ⟨j, ⟨by omega, hj.2⟩, by omega⟩
    · rw [if_neg hc]
      refine ⟨h1, fun j hj => h2 j ⟨by by_cases e : j = k; subst e; exact absurd hj.2 hc; omega, hj.2⟩, ?_⟩
      rcases h3 with h3 | ⟨j, hj, e⟩
      · exact .inl h3
      · exact .inr ⟨j, ⟨by omega, hj.2⟩, e⟩
theorem most_bd {C : Nat → Bool} {r : List Int} {b : Int} (hb : 0 ≤ b) (hr : ∀ i, rk r i ≤ b) : ∀ k, 0 ≤ mostK C r k ∧ mostK C r k ≤ b + 1
  | 0 => ⟨Int.le_refl _, by unfold mostK; omega⟩
  | k + 1 => by
    have := most_bd (C := C) hb hr k
    have := hr k
    unfold mostK
    split <;> omega
/-- Does the source of a field ask for another one? -/
def askB (fs : List GenL.Fd) (X : Nat → Ex) (i : Nat) (j : Nat) : Bool := !decide ((fs[i]?.map (·.kind)).getD 0 = 1) && hasB (Ex.refs (X i)) ((fs[j]?.map (·.nm)).getD ⟨#[]⟩)
theorem ask_needs {rs : List Rw} {fs : List GenL.Fd} {X : Nat → Ex} {π : Nat → Nat} (h : OfBase rs fs X π) {i j : Nat} (hi : i < fs.length) (hj : j < fs.length) : askB fs X i j = true ↔ j ∈ nd (needsF fs X) i := by
  rw [needsF_nd _ _ _ hi]
  unfold askB needF
  rw [dif_pos hi, List.getElem?_eq_getElem hi, List.getElem?_eq_getElem hj]
  simp only [Option.map_some, Option.getD_some]
  by_cases hk : fs[i].kind = 1
  · rw [if_pos hk]; simp [hk]
  · rw [if_neg hk]
    obtain ⟨c1, _, c3⟩ := h.src i hi hk
    have e : mkL (ofL (X i)) = mkL (rise (bytesL (Ex.refs (X i)))) := by unfold ofL; rw [if_pos c1]
    rw [e]
    have hm : ∀ s, s ∈ mkL (rise (bytesL (Ex.refs (X i)))) ↔ s ∈ Ex.refs (X i) := fun s => by
      have eb := bytes_refs (Ex.refs (X i))
      unfold mkL at eb ⊢
      constructor
      · intro hs
        obtain ⟨b, hb, rfl⟩ := List.mem_map.1 hs
        rw [rise_mem] at hb
        rw [← eb]; exact List.mem_map.2 ⟨b, hb, rfl⟩
      · intro hs
        rw [← eb] at hs
        obtain ⟨b, hb, rfl⟩ := List.mem_map.1 hs
        exact List.mem_map.2 ⟨b, (rise_mem _ _).2 hb, rfl⟩
    have hnm := h.nm j hj
    rw [Bool.and_eq_true, show (!decide (fs[i].kind = 1)) = true by simp [hk], hnm]
    constructor
    · rintro ⟨_, hb⟩
      have hs := (hasB_true _ _).1 hb
      exact List.mem_map.2 ⟨_, (hm _).2 hs, by unfold plN; rw [h.place j hj, if_pos hj]⟩
    · intro hs
      obtain ⟨s, hs1, hs2⟩ := List.mem_map.1 hs
      refine ⟨rfl, (hasB_true _ _).2 ?_⟩
      have hs3 := (hm s).1 hs1
      obtain ⟨q, q1, q2, q3⟩ := c3 s hs3
      have : plN fs s = q := by unfold plN; rw [q3, h.place q q1, if_pos q1]
      rw [this] at hs2
      subst hs2
      rw [← q3]; exact hs3
theorem most_rank {rs : List Rw} {fs : List GenL.Fd} {X : Nat → Ex} {π : Nat → Nat} (h : OfBase rs fs X π) (h0 : ∀ i, i < fs.length → 0 ≤ rk (rankF (needsF fs X)) i) (i : Nat) (hi : i < fs.length) : mostK (askB fs X i) (rankF (needsF fs X)) fs.length = rk (rankF (needsF fs X)) i := by
  have hl := needsF_len fs X
  have h1 := most_mx (C := askB fs X i) (r := rankF (needsF fs X)) (rankF_lo _) fs.length
  have h2 := rank_mx (ns := needsF fs X) (fun i hi => h0 i (by rw [← hl]; exact hi)) (fun i hi j hj => by rw [hl] at hi ⊢; exact (h.needs i hi j hj).1) i (by rw [hl]; exact hi)
  refine h1.uniq ⟨h2.1, fun j hj => h2.2.1 j ((ask_needs h hi hj.1).1 hj.2), ?_⟩
  rcases h2.2.2 with e | ⟨j, hj, e⟩
  · exact .inl e
  · have hjl := (h.needs i hi j hj).1
    exact .inr ⟨j, ⟨hjl, (ask_needs h hi hjl).2 hj⟩, e⟩
end Go.Proofs.YtdndphagfohpnaaDoor.RkR
