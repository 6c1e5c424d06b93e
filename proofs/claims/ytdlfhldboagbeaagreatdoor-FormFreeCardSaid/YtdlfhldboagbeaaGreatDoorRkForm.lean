/- The fields of a form, in any order: what each needs; the small form; their ranks. -/
import Derived.Test.YtdlfhldboagbeaaGreatDoorRkOf
import Derived.Test.YtdlfhldboagbeaaGreatDoorFrmOf
import Derived.Test.YtdlfhldboagbeaaGreatDoorFormTop
import Derived.Test.YtdlfhldboagbeaaGreatDoorFldCheck
import Derived.Test.YtdlfhldboagbeaaGreatDoorTyGen
import Derived.Test.YtdlfhldboagbeaaGreatDoorNmGen
import Derived.Test.YtdlfhldboagbeaaGreatDoorShelf
import Derived.Test.YtdlfhldboagbeaaGreatDoorNmHas
namespace Go.Proofs.YtdlfhldboagbeaaGreatDoor.FrmO
open Go.RowKit
open ValM LexM NumM ExM NmM Kit ExL ExP ExN ExC RawV Within RawL RawN GenL Gen GenT GenV FrmM Frm FldP FldR FldC FrmT TyM Ty TyG NmG NmO NmI NmT RkM RkD
set_option linter.unusedVariables false

namespace OfBase
variable {rs : List Rw} {fs : List GenL.Fd} {X : Nat → Ex} {π : Nat → Nat}
theorem needs (h : OfBase rs fs X π) (i : Nat) (hi : i < fs.length) : ∀ j ∈ nd (needsF fs X) i, j < fs.length ∧ π j < π i := fun j hj => by
  rw [needsF_nd _ _ _ hi] at hj
  unfold needF at hj
  rw [dif_pos hi] at hj
  by_cases hk : fs[i].kind = 1
  · rw [if_pos hk] at hj; simp at hj
  · rw [if_neg hk] at hj
    obtain ⟨c1, _, c3⟩ := h.src i hi hk
    obtain ⟨s, hs, rfl⟩ := List.mem_map.1 hj
    have hs2 : s ∈ Ex.refs (X i) := by
      have e := bytes_refs (Ex.refs (X i))
      unfold ofL at hs
      rw [if_pos c1] at hs
      unfold mkL at hs e
      obtain ⟨b, hb, rfl⟩ := List.mem_map.1 hs
      rw [rise_mem] at hb
      rw [← e]
      exact List.mem_map.2 ⟨b, hb, rfl⟩
    obtain ⟨q, q1, q2, q3⟩ := c3 s hs2
    have : plN fs s = q := by unfold plN; rw [q3, h.place q q1, if_pos q1]
    rw [this]; exact ⟨q1, q2⟩
end OfBase
end Go.Proofs.YtdlfhldboagbeaaGreatDoor.FrmO
namespace Go.Proofs.YtdlfhldboagbeaaGreatDoor.RkS
open Go.RowKit
open ValM LexM NumM ExM NmM Kit ExL ExP ExN ExC RawV Within RawL RawN GenL Gen GenT GenV FrmM Frm FldP FldR FldC FrmT FrmO TyM Ty TyG NmG NmO NmI NmR RkM RkA RkB RkC RkD RkO
set_option linter.unusedVariables false

def sx0 : Ex := .mk ⟨8, 0, 0, ⟨#[]⟩, ⟨#[]⟩⟩ [.mk ⟨2, 0, 0, ⟨#[]⟩, ⟨#[97]⟩⟩ [], .mk ⟨1, 1, 1, ⟨#[]⟩, ⟨#[]⟩⟩ []]
def sx2 : Ex := .mk ⟨2, 0, 0, ⟨#[]⟩, ⟨#[98]⟩⟩ []
theorem sx0_check : sx0.checkE = 0 := by
  rw [checkE_ok (by unfold sx0; simp [nodes_mk, nodesL_cons, nodesL_nil]) (by unfold sx0; simp [depth_mk, depthL_cons, depthL_nil])]
  unfold sx0
  simp only [pre_mk, preL_cons, preL_nil, List.nil_append, List.append_nil, List.cons_append, List.length_cons, List.length_nil]
  decide
theorem sx2_check : sx2.checkE = 0 := by
  rw [checkE_ok (by unfold sx2; simp [nodes_mk, nodesL_nil]) (by unfold sx2; simp [depth_mk, depthL_nil])]
  unfold sx2
  simp only [pre_mk, preL_nil, List.length_nil]
  decide
theorem sx0_refs : Ex.refs sx0 = [⟨#[97]⟩] := by
  unfold sx0
  rw [refs_mk_neg _ _ (by decide), refsL_cons, refsL_cons, refsL_nil, refs_mk_pos _ _ rfl, refs_mk_neg _ _ (by decide), refsL_nil]; rfl
theorem sx2_refs : Ex.refs sx2 = [⟨#[98]⟩] := by
  unfold sx2
  rw [refs_mk_pos _ _ rfl, refsL_nil]
theorem sx0_ty (G : List (ByteArray × Int)) (h : fieldT G ⟨#[97]⟩ = (1, 0)) : Ex.ty G sx0 = (1, 0) := by
  unfold sx0
  rw [ty_mk, tyL_cons, tyL_cons, tyL_nil, ty_mk, ty_mk, tyL_nil]
  have e1 : tyN G ⟨2, 0, 0, ⟨#[]⟩, ⟨#[97]⟩⟩ [] = (1, 0) := by unfold tyN; rw [if_neg (by decide), if_pos rfl, h]
  rw [e1]
  show tyN G _ [(1, 0), (1, 0)] = _
  unfold tyN
  rw [if_neg (by decide), if_neg (by decide)]
  decide
theorem sx2_ty (G : List (ByteArray × Int)) (t : Int) (h : fieldT G ⟨#[98]⟩ = (t, 0)) : Ex.ty G sx2 = (t, 0) := by
  unfold sx2
  rw [ty_mk]
  unfold tyN
  rw [if_neg (by decide), if_pos rfl, h]
/-- What is wanted of the three fields. -/
theorem small_all {es : List FE} {P : Nat → Prop} {w : World} {A : Option Addr} (h : es.map FE.v = smallV) (hr : FRow P w A es) :
    Forms w (es.map FE.fd) (xOf es) ∧ checkF (es.map FE.fd) (xOf es) = 0 ∧ needsF (es.map FE.fd) (xOf es) = [[1], [], [0]] := by
  have hl := small_len h
  match es, h, hl with
  | [a, b, c], h, _ =>
    simp only [List.map_cons, List.map_nil, smallV, List.cons.injEq, and_true] at h
    obtain ⟨h1, h2, h3⟩ := h
    have n1 : a.nm = ⟨#[98]⟩ := congrArg FV.nm h1
    have n2 : b.nm = ⟨#[97]⟩ := congrArg FV.nm h2
    have n3 : c.nm = ⟨#[99]⟩ := congrArg FV.nm h3
    have k1 : a.kind = 2 := congrArg FV.kind h1
    have k2 : b.kind = 1 := congrArg FV.kind h2
    have k3 : c.kind = 3 := congrArg FV.kind h3
    have t1 : a.ty = 1 := congrArg FV.ty h1
    have t2 : b.ty = 1 := congrArg FV.ty h2
    have t3 : c.ty = 3 := congrArg FV.ty h3
    have x1 : a.x = sx0 := congrArg FV.x h1
    have x2 : b.x = zeroX := congrArg FV.x h2
    have x3 : c.x = sx2 := congrArg FV.x h3
    have hX0 : xOf [a, b, c] 0 = sx0 := x1
    have hX1 : xOf [a, b, c] 1 = zeroX := x2
    have hX2 : xOf [a, b, c] 2 = sx2 := x3
    have hb : bareB b.x.d b.m = true := by
      obtain ⟨g, _, _, _, his⟩ := hr 1 (by simp)
      have his : IsP P w b.x b.x.d b.B b.m := his
      rw [x2] at his ⊢
      exact bare_zero his
    have d1 : ¬ (⟨#[98]⟩ : ByteArray) = ⟨#[97]⟩ := by decide
    have d2 : ¬ (⟨#[98]⟩ : ByteArray) = ⟨#[99]⟩ := by decide
    have d3 : ¬ (⟨#[97]⟩ : ByteArray) = ⟨#[99]⟩ := by decide
    have p97 : atF [a.fd, b.fd, c.fd] ⟨#[97]⟩ = 1 := by
      show atF (⟨a.nm, _, _, _, _, _, _⟩ :: ⟨b.nm, _, _, _, _, _, _⟩ :: _) _ = 1
      rw [n1, n2]; unfold atF; rw [if_neg d1]; unfold atF; rw [if_pos rfl]
    have p98 : atF [a.fd, b.fd, c.fd] ⟨#[98]⟩ = 0 := by
      show atF (⟨a.nm, _, _, _, _, _, _⟩ :: _) _ = 0
      rw [n1]; unfold atF; rw [if_pos rfl]
    have p99 : atF [a.fd, b.fd, c.fd] ⟨#[99]⟩ = 2 := by
      show atF (⟨a.nm, _, _, _, _, _, _⟩ :: ⟨b.nm, _, _, _, _, _, _⟩ :: ⟨c.nm, _, _, _, _, _, _⟩ :: _) _ = 2
      rw [n1, n2, n3]; unfold atF; rw [if_neg d2]; unfold atF; rw [if_neg d3]; unfold atF; rw [if_pos rfl]
    have f97 : fieldT (fts [a.fd, b.fd, c.fd]) ⟨#[97]⟩ = (1, 0) := by
      show fieldT ((a.nm, a.ty) :: (b.nm, b.ty) :: _) _ = _
      rw [n1, n2, t2]; unfold fieldT; rw [if_neg d1]; unfold fieldT; rw [if_pos rfl]
    have f98 : fieldT (fts [a.fd, b.fd, c.fd]) ⟨#[98]⟩ = (1, 0) := by
      show fieldT ((a.nm, a.ty) :: _) _ = _
      rw [n1, t1]; unfold fieldT; rw [if_pos rfl]
    have hF : Forms w ([a, b, c].map FE.fd) (xOf [a, b, c]) := fun k hk => by
      have hk' : k < 3 := by simpa using hk
      obtain ⟨g, _, _, _, his⟩ := hr k (by simpa using hk)
      rw [List.getElem_map, xOf_at _ _ (by simpa using hk)]
      refine ⟨?_, IsP.is _ _ _ _ his⟩
      obtain rfl | rfl | rfl : k = 0 ∨ k = 1 ∨ k = 2 := by omega
      · show a.nm.size ≤ _; rw [n1]; decide
      · show b.nm.size ≤ _; rw [n2]; decide
      · show c.nm.size ≤ _; rw [n3]; decide
    refine ⟨hF, ?_, ?_⟩
    · have hr0 : rightE a.fd sx0 = 0 := by
        show rightE ⟨a.nm, a.kind, a.ty, _, _, _, _⟩ _ = 0
        rw [n1, k1, t1]; unfold rightE
        rw [if_neg (show ¬ LexB.nameE (⟨#[98]⟩ : ByteArray).data.toList ≠ 0 by decide), if_pos (show isT 2 = true ∧ isT 1 = true by decide), if_neg (show ¬ (2 : Int) = 1 by decide)]; exact sx0_check
      have hr1 : rightE b.fd zeroX = 0 := by
        show rightE ⟨b.nm, b.kind, b.ty, b.x.d, _, b.m, _⟩ _ = 0
        rw [n2, k2, t2]; unfold rightE
        rw [if_neg (show ¬ LexB.nameE (⟨#[97]⟩ : ByteArray).data.toList ≠ 0 by decide), if_pos (show isT 1 = true ∧ isT 1 = true by decide), if_pos rfl, if_pos hb]
      have hr2 : rightE c.fd sx2 = 0 := by
        show rightE ⟨c.nm, c.kind, c.ty, _, _, _, _⟩ _ = 0
        rw [n3, k3, t3]; unfold rightE
        rw [if_neg (show ¬ LexB.nameE (⟨#[99]⟩ : ByteArray).data.toList ≠ 0 by decide), if_pos (show isT 3 = true ∧ isT 3 = true by decide), if_neg (show ¬ (3 : Int) = 1 by decide)]; exact sx2_check
      have o : ∀ j, j < 3 → ownE [a.fd, b.fd, c.fd] (xOf [a, b, c]) j = 0 := fun j hj => by
        unfold ownE
        rw [dif_pos (show j < [a.fd, b.fd, c.fd].length from hj)]
        match j, hj with
        | 0, _ => show (if rightE a.fd (xOf [a, b, c] 0) = 0 then (if atF _ a.nm < 0 then (6 : Int) else 0) else _) = 0; rw [hX0, if_pos hr0, if_neg (by omega)]
        | 1, _ => show (if rightE b.fd (xOf [a, b, c] 1) = 0 then (if atF _ b.nm < 1 then (6 : Int) else 0) else _) = 0; rw [hX1, if_pos hr1, n2, p97, if_neg (by decide)]
        | 2, _ => show (if rightE c.fd (xOf [a, b, c] 2) = 0 then (if atF _ c.nm < 2 then (6 : Int) else 0) else _) = 0; rw [hX2, if_pos hr2, n3, p99, if_neg (by decide)]
      have t : ∀ j, j < 3 → typE [a.fd, b.fd, c.fd] (xOf [a, b, c]) j = 0 := fun j hj => by
        unfold typE
        rw [dif_pos (show j < [a.fd, b.fd, c.fd].length from hj)]
        match j, hj with
        | 0, _ =>
          show srcE _ a.fd (xOf [a, b, c] 0) = 0
          unfold srcE
          show (if a.kind = 2 then fitsT _ _ a.ty else _) = 0
          rw [if_pos k1, hX0, t1]; unfold fitsT
          rw [ofT_ty sx0_check, sx0_ty _ f97]; rfl
        | 1, _ =>
          show srcE _ b.fd (xOf [a, b, c] 1) = 0
          unfold srcE
          show (if b.kind = 2 then _ else if b.kind = 3 then _ else (0 : Int)) = 0
          rw [k2, if_neg (by decide), if_neg (by decide)]
        | 2, _ =>
          show srcE _ c.fd (xOf [a, b, c] 2) = 0
          unfold srcE
          show (if c.kind = 2 then _ else if c.kind = 3 then (ofT _ _).2 else (0 : Int)) = 0
          rw [k3, if_neg (by decide), if_pos rfl, hX2, ofT_ty sx2_check, sx2_ty _ _ f98]
      show checkF [a.fd, b.fd, c.fd] (xOf [a, b, c]) = 0
      unfold checkF
      rw [if_neg (by show ¬ 14 < 3; decide)]
      show (if scan (ownE [a.fd, b.fd, c.fd] (xOf [a, b, c])) 3 = 0 then scan (typE [a.fd, b.fd, c.fd] (xOf [a, b, c])) 3 else _) = 0
      rw [scan_zero 3 o, if_pos rfl, scan_zero 3 t]
    · show [needF [a.fd, b.fd, c.fd] (xOf [a, b, c]) 0, needF [a.fd, b.fd, c.fd] (xOf [a, b, c]) 1, needF [a.fd, b.fd, c.fd] (xOf [a, b, c]) 2] = _
      have e0 : needF [a.fd, b.fd, c.fd] (xOf [a, b, c]) 0 = [1] := by
        unfold needF
        rw [dif_pos (by show 0 < 3; decide)]
        show (if a.kind = 1 then [] else _) = _
        rw [k1, if_neg (by decide), hX0]
        have : mkL (ofL sx0) = [⟨#[97]⟩] := by unfold ofL; rw [if_pos sx0_check, sx0_refs]; decide
        rw [this]
        show [plN [a.fd, b.fd, c.fd] ⟨#[97]⟩] = _
        unfold plN; rw [p97]; rfl
      have e1 : needF [a.fd, b.fd, c.fd] (xOf [a, b, c]) 1 = [] := by
        unfold needF
        rw [dif_pos (by show 1 < 3; decide)]
        show (if b.kind = 1 then [] else _) = _
        rw [k2, if_pos rfl]
      have e2 : needF [a.fd, b.fd, c.fd] (xOf [a, b, c]) 2 = [0] := by
        unfold needF
        rw [dif_pos (by show 2 < 3; decide)]
        show (if c.kind = 1 then [] else _) = _
        rw [k3, if_neg (by decide), hX2]
        have : mkL (ofL sx2) = [⟨#[98]⟩] := by unfold ofL; rw [if_pos sx2_check, sx2_refs]; decide
        rw [this]
        show [plN [a.fd, b.fd, c.fd] ⟨#[98]⟩] = _
        unfold plN; rw [p98]; rfl
      rw [e0, e1, e2]
theorem small_rank : rankF [[1], [], [0]] = [1, 0, 2] := by decide
end Go.Proofs.YtdlfhldboagbeaaGreatDoor.RkS
namespace Go.Proofs.YtdlfhldboagbeaaGreatDoor.RkK
open Go.RowKit
open ValM LexM NumM ExM NmM Kit ExL ExP ExN ExC RawV Within RawL RawN GenL Gen GenT GenV FrmM Frm FldP FldR FldC FrmT FrmO TyM Ty TyG NmG NmO NmI NmR RkM RkA RkB RkC RkD RkO RkS
set_option linter.unusedVariables false

/-- A row of numbers that is told by its block. -/
def RankAt (ns : List (List Nat)) (n : Nat) (w : World) (e : Ending) (w' : World) : Prop :=
  ∃ g cap, e = .returned (.tuple #[.slice (some ⟨g, 0, none⟩) n cap, .slice none 0 0, .int .i64 0]) ∧ (∀ j, j < n → w'.cell? ⟨g, j, none⟩ = some (.int .i64 (rk (rankF ns) j))) ∧ w.heap.size ≤ g ∧ Below w.heap.size w w'
theorem RankOk.at {ns : List (List Nat)} {n : Nat} (hn : ns.length = n) (h0 : 0 < n) {w : World} {e : Ending} {w' : World} (h : RankOk ns w e w') : RankAt ns n w e w' := by
  obtain ⟨v, rfl, hown, hb⟩ := h
  subst hn
  obtain ⟨g, cap, rfl, hg, _, _, _, hc⟩ := GenL.own_form hown h0
  exact ⟨g, cap, rfl, fun j hj => by rw [hc j (by omega), iV_at _ _ (by rw [rankF_len]; exact hj)], hg, hb⟩
/-- What rank.Of says of a form's fields. -/
structure FormRank (rs : List Rw) (es : List FE) (FA : Option Addr) (fc : Nat) (w : World) : Prop where
  of : ∀ V : World, Below w.heap.size w V → Calls Tryz.prog 23 #[.slice FA es.length fc] V (RankAt (needsF (es.map FE.fd) (xOf es)) es.length V)
  base : OfBase rs (es.map FE.fd) (xOf es) (plc rs)
  flds : Flds w FA (es.map FE.fd)
  forms : Forms w (es.map FE.fd) (xOf es)
  ge : ∀ i, i < es.length → 0 ≤ rk (rankF (needsF (es.map FE.fd) (xOf es))) i ∧ rk (rankF (needsF (es.map FE.fd) (xOf es))) i ≤ (plc rs i : Int)
  len : es.length = countV rs
theorem form_rank {rs : List Rw} {es : List FE} {P : Nat → Prop} {w : World} {FA : Option Addr} {fc : Nat} (h : es.map FE.v = formF rs) (hr : FRow P w FA es) (hcap : es.length ≤ fc ∧ fc ≤ maxLen) (hT : Tab w) : FormRank rs es FA fc w := by
  have hB := form_base h hr
  have hl : (es.map FE.fd).length = es.length := List.length_map _
  have hlen : es.length = countV rs := (form_places h).1
  have hge : ∀ i, i < es.length → 0 ≤ rk (rankF (needsF (es.map FE.fd) (xOf es))) i ∧ rk (rankF (needsF (es.map FE.fd) (xOf es))) i ≤ (plc rs i : Int) := fun i hi => by
    refine rankF_ok (m := plc rs) (fun k hk j hj => ?_) _ i (Nat.le_refl _) (by rw [needsF_len, hl]; exact hi)
    rw [needsF_len] at hk ⊢
    exact hB.needs k hk j hj
  refine ⟨fun V hV => ?_, hB, frow_flds hr, form_forms h hr, hge, hlen⟩
  have h10 := hB.ten
  have := of_ok (es.map FE.fd) (xOf es) FA fc V (by omega) ((frow_flds hr).below hV) ((form_forms h hr).below hV) (hT.below hV) (by rw [hl]; exact hcap) hB.check (fun i hi => (hge i (by omega)).1)
  rw [hl] at this
  exact this.mono fun e w' hh => RankOk.at (by rw [needsF_len, hl]) (by have := (countV_bd rs).1; omega) hh
theorem eq_three (W : World) (g cap B : Nat) (h1 : ∀ j, j < 3 → W.cell? ⟨g, j, none⟩ = some (.int .i64 (rk [1, 0, 2] j))) (h2 : ∀ j, j < 3 → W.cell? ⟨B, j, none⟩ = some (.int .i64 (rk [1, 0, 2] j))) :
    Calls Tryz.prog 35 #[.slice (some ⟨g, 0, none⟩) 3 cap, .slice (some ⟨B, 0, none⟩) 3 3] W fun e w' => e = .returned (.bool true) ∧ ∃ q, w' = W.drewN q := by
  have := Tryz.slices_Equal_int g 0 3 cap B 0 3 3 [1, 0, 2] [1, 0, 2] W (by decide) (by decide) (by decide) (by decide) (fun j hj => by rw [Nat.zero_add]; exact h1 j hj) (fun j hj => by rw [Nat.zero_add]; exact h2 j hj)
  exact this
theorem min_at {r : List Int} : ∀ k, 0 < k → k ≤ r.length → (∀ j, j < k → Lib.minOf (r.take k) ≤ rk r j) ∧ ∃ j, j < k ∧ Lib.minOf (r.take k) = rk r j
  | 0, h, _ => absurd h (by omega)
  | 1, _, hl => by
    rw [Lib.minOf_one]
    exact ⟨fun j hj => by obtain rfl : j = 0 := by omega
                          exact Int.le_refl _, 0, by omega, rfl⟩
  | k + 2, _, hl => by
    obtain ⟨h1, j, hj, h2⟩ := min_at (r := r) (k + 1) (by omega) (by omega)
    rw [Lib.minOf_step r (k + 1) (by omega) (by omega)]
    have e : r.getD (k + 1) 0 = rk r (k + 1) := rfl
    rw [e]
    refine ⟨fun i hi => ?_, ?_⟩
    · by_cases e : i = k + 1
      · subst e; omega
      · have := h1 i (by omega); omega
    · by_cases hm : Lib.minOf (r.take (k + 1)) ≤ rk r (k + 1)
      · exact ⟨j, by omega, by omega⟩
      · exact ⟨k + 1, by omega, by omega⟩
theorem max_at {r : List Int} : ∀ k, 0 < k → k ≤ r.length → ∃ j, j < k ∧ Lib.maxOf (r.take k) = rk r j
  | 0, h, _ => absurd h (by omega)
  | 1, _, hl => by
    rw [Lib.maxOf_one]
    exact ⟨0, by omega, rfl⟩
  | k + 2, _, hl => by
    obtain ⟨j, hj, h2⟩ := max_at (r := r) (k + 1) (by omega) (by omega)
    rw [Lib.maxOf_step r (k + 1) (by omega) (by omega)]
    have e : r.getD (k + 1) 0 = rk r (k + 1) := rfl
    rw [e]
    by_cases hm : rk r (k + 1) ≤ Lib.maxOf (r.take (k + 1))
    · exact ⟨j, by omega, by omega⟩
    · exact ⟨k + 1, by omega, by omega⟩
end Go.Proofs.YtdlfhldboagbeaaGreatDoor.RkK
namespace Go.Proofs.YtdlfhldboagbeaaGreatDoor.RkR
open Go.RowKit
open ValM LexM NumM ExM NmM Kit ExL ExP ExN ExC RawV Within RawL RawN GenL Gen GenT GenV FrmM Frm FldP FldR FldC FrmT FrmO TyM Ty TyG NmG NmO NmI NmT NmR NmV RkM RkA RkB RkC RkD RkO RkS RkK
set_option linter.unusedVariables false

/-- What the statement's inner loop counts up to a place. -/
def mostK (C : Nat → Bool) (r : List Int) : Nat → Int
  | 0 => 0
  | k + 1 => if C k = true then max (mostK C r k) (rk r k + 1) else mostK C r k
theorem most_mx {C : Nat → Bool} {r : List Int} (hr : ∀ i, -1 ≤ rk r i) : ∀ k, Mx r (fun j => j < k ∧ C j = true) (mostK C r k)
  | 0 => ⟨Int.le_refl _, fun j h => absurd h.1 (by omega), .inl rfl⟩
  | k + 1 => by
    obtain ⟨h1, h2, h3⟩ := most_mx (C := C) hr k
    have hk := hr k
    unfold mostK
    by_cases hc : C k = true
    · rw [if_pos hc]
      refine ⟨by omega, fun j hj => ?_, ?_⟩
      · by_cases e : j = k
        · subst e; omega
        · have := h2 j ⟨by omega, hj.2⟩; omega
      · by_cases hm : mostK C r k ≤ rk r k + 1
        · exact .inr ⟨k, ⟨by omega, hc⟩, by omega⟩
        · rcases h3 with h3 | ⟨j, hj, e⟩
          · exact .inl (by omega)
          · exact .inr ⟨j, ⟨by omega, hj.2⟩, by omega⟩
    · rw [if_neg hc]
      refine ⟨h1, fun j hj => h2 j ⟨by by_cases e : j = k; subst e; exact absurd hj.2 hc; omega, hj.2⟩, ?_⟩
      rcases h3 with h3 | ⟨j, hj, e⟩
      · exact .inl h3
      · exact .inr ⟨j, ⟨by omega, hj.2⟩, e⟩
theorem most_bd {C : Nat → Bool} {r : List Int} {b : Int} (hb : 0 ≤ b) (hr : ∀ i, rk r i ≤ b) : ∀ k, 0 ≤ mostK C r k ∧ mostK C r k ≤ b + 1
  | 0 => ⟨Int.le_refl _, by unfold mostK; omega⟩
  | k + 1 => by
    have := most_bd (C := C) hb hr k
    have := hr k
    unfold mostK
    split <;> omega
/-- Does the source of a field ask for another one? -/
def askB (fs : List GenL.Fd) (X : Nat → Ex) (i : Nat) (j : Nat) : Bool := !decide ((fs[i]?.map (·.kind)).getD 0 = 1) && hasB (Ex.refs (X i)) ((fs[j]?.map (·.nm)).getD ⟨#[]⟩)
theorem ask_needs {rs : List Rw} {fs : List GenL.Fd} {X : Nat → Ex} {π : Nat → Nat} (h : OfBase rs fs X π) {i j : Nat} (hi : i < fs.length) (hj : j < fs.length) : askB fs X i j = true ↔ j ∈ nd (needsF fs X) i := by
  rw [needsF_nd _ _ _ hi]
  unfold askB needF
  rw [dif_pos hi, List.getElem?_eq_getElem hi, List.getElem?_eq_getElem hj]
  simp only [Option.map_some, Option.getD_some]
  by_cases hk : fs[i].kind = 1
  · rw [if_pos hk]; simp [hk]
  · rw [if_neg hk]
    obtain ⟨c1, _, c3⟩ := h.src i hi hk
    have e : mkL (ofL (X i)) = mkL (rise (bytesL (Ex.refs (X i)))) := by unfold ofL; rw [if_pos c1]
    rw [e]
    have hm : ∀ s, s ∈ mkL (rise (bytesL (Ex.refs (X i)))) ↔ s ∈ Ex.refs (X i) := fun s => by
      have eb := bytes_refs (Ex.refs (X i))
      unfold mkL at eb ⊢
      constructor
      · intro hs
        obtain ⟨b, hb, rfl⟩ := List.mem_map.1 hs
        rw [rise_mem] at hb
        rw [← eb]; exact List.mem_map.2 ⟨b, hb, rfl⟩
      · intro hs
        rw [← eb] at hs
        obtain ⟨b, hb, rfl⟩ := List.mem_map.1 hs
        exact List.mem_map.2 ⟨b, (rise_mem _ _).2 hb, rfl⟩
    have hnm := h.nm j hj
    rw [Bool.and_eq_true, show (!decide (fs[i].kind = 1)) = true by simp [hk], hnm]
    constructor
    · rintro ⟨_, hb⟩
      have hs := (hasB_true _ _).1 hb
      exact List.mem_map.2 ⟨_, (hm _).2 hs, by unfold plN; rw [h.place j hj, if_pos hj]⟩
    · intro hs
      obtain ⟨s, hs1, hs2⟩ := List.mem_map.1 hs
      refine ⟨rfl, (hasB_true _ _).2 ?_⟩
      have hs3 := (hm s).1 hs1
      obtain ⟨q, q1, q2, q3⟩ := c3 s hs3
      have : plN fs s = q := by unfold plN; rw [q3, h.place q q1, if_pos q1]
      rw [this] at hs2
      subst hs2
      rw [← q3]; exact hs3
theorem most_rank {rs : List Rw} {fs : List GenL.Fd} {X : Nat → Ex} {π : Nat → Nat} (h : OfBase rs fs X π) (h0 : ∀ i, i < fs.length → 0 ≤ rk (rankF (needsF fs X)) i) (i : Nat) (hi : i < fs.length) : mostK (askB fs X i) (rankF (needsF fs X)) fs.length = rk (rankF (needsF fs X)) i := by
  have hl := needsF_len fs X
  have h1 := most_mx (C := askB fs X i) (r := rankF (needsF fs X)) (rankF_lo _) fs.length
  have h2 := rank_mx (ns := needsF fs X) (fun i hi => h0 i (by rw [← hl]; exact hi)) (fun i hi j hj => by rw [hl] at hi ⊢; exact (h.needs i hi j hj).1) i (by rw [hl]; exact hi)
  refine h1.uniq ⟨h2.1, fun j hj => h2.2.1 j ((ask_needs h hi hj.1).1 hj.2), ?_⟩
  rcases h2.2.2 with e | ⟨j, hj, e⟩
  · exact .inl e
  · have hjl := (h.needs i hi j hj).1
    exact .inr ⟨j, ⟨hjl, (ask_needs h hi hjl).2 hj⟩, e⟩
end Go.Proofs.YtdlfhldboagbeaaGreatDoor.RkR
