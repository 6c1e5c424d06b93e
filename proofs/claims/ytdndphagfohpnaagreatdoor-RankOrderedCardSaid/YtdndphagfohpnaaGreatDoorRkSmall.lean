/- The small form: its fields may be; their ranks are 1, 0, 2. -/
import Derived.Test.YtdndphagfohpnaaGreatDoorFormOk
import Derived.Test.YtdndphagfohpnaaGreatDoorRkOf
import Derived.Test.YtdndphagfohpnaaGreatDoorShelf
namespace Go.Proofs.YtdndphagfohpnaaGreatDoor.RkS
open Go.RowKit
open ValM LexM NumM ExM NmM Kit ExL ExP ExN ExC RawV Within RawL RawN GenL Gen GenT GenV FrmM Frm FldP FldR FldC FrmT FrmO TyM Ty TyG NmG NmO NmI NmR RkM RkA RkB RkC RkD RkO
set_option linter.unusedVariables false

def sx0 : Ex := .mk ⟨8, 0, 0, ⟨#[]⟩, ⟨#[]⟩⟩ [.mk ⟨2, 0, 0, ⟨#[]⟩, ⟨#[97]⟩⟩ [], .mk ⟨1, 1, 1, ⟨#[]⟩, ⟨#[]⟩⟩ []]
def sx2 : Ex := .mk ⟨2, 0, 0, ⟨#[]⟩, ⟨#[98]⟩⟩ []
theorem sx0_check : sx0.checkE = 0 := by
  rw [checkE_ok (by unfold sx0; simp [nodes_mk, nodesL_cons, nodesL_nil]) (by unfold sx0; simp [depth_mk, depthL_cons, depthL_nil])]
  unfold sx0
  simp only [pre_mk, preL_cons, preL_nil, List.nil_append, List.append_nil, List.cons_append, List.length_cons, List.length_nil]
  decide
theorem sx2_check : sx2.checkE = 0 := by
  rw [checkE_ok (by unfold sx2; simp [nodes_mk, nodesL_nil]) (by unfold sx2; simp [depth_mk, depthL_nil])]
  unfold sx2
  simp only [pre_mk, preL_nil, List.length_nil]
  decide
theorem sx0_refs : Ex.refs sx0 = [⟨#[97]⟩] := by
  unfold sx0
  rw [refs_mk_neg _ _ (by decide), refsL_cons, refsL_cons, refsL_nil, refs_mk_pos _ _ rfl, refs_mk_neg _ _ (by decide), refsL_nil]; rfl
theorem sx2_refs : Ex.refs sx2 = [⟨#[98]⟩] := by
  unfold sx2
  rw [refs_mk_pos _ _ rfl, refsL_nil]
theorem sx0_ty (G : List (ByteArray × Int)) (h : fieldT G ⟨#[97]⟩ = (1, 0)) : Ex.ty G sx0 = (1, 0) := by
  unfold sx0
  rw [ty_mk, tyL_cons, tyL_cons, tyL_nil, ty_mk, ty_mk, tyL_nil]
  have e1 : tyN G ⟨2, 0, 0, ⟨#[]⟩, ⟨#[97]⟩⟩ [] = (1, 0) := by unfold tyN; rw [if_neg (by decide), if_pos rfl, h]
  rw [e1]
  show tyN G _ [(1, 0), (1, 0)] = _
  unfold tyN
  rw [if_neg (by decide), if_neg (by decide)]
  decide
theorem sx2_ty (G : List (ByteArray × Int)) (t : Int) (h : fieldT G ⟨#[98]⟩ = (t, 0)) : Ex.ty G sx2 = (t, 0) := by
  unfold sx2
  rw [ty_mk]
  unfold tyN
  rw [if_neg (by decide), if_pos rfl, h]
/-- What is wanted of the three fields. -/
theorem small_all {es : List FE} {P : Nat → Prop} {w : World} {A : Option Addr} (h : es.map FE.v = smallV) (hr : FRow P w A es) :
    Forms w (es.map FE.fd) (xOf es) ∧ checkF (es.map FE.fd) (xOf es) = 0 ∧ needsF (es.map FE.fd) (xOf es) = [[1], [], [0]] := by
  have hl := small_len h
  match es, h, hl with
  | [a, b, c], h, _ =>
    simp only [List.map_cons, List.map_nil, smallV, List.cons.injEq, and_true] at h
    obtain ⟨h1, h2, h3⟩ := h
    have n1 : a.nm = ⟨#[98]⟩ := congrArg FV.nm h1
    have n2 : b.nm = ⟨#[97]⟩ := congrArg FV.nm h2
    have n3 : c.nm = ⟨#[99]⟩ := congrArg FV.nm h3
    have k1 : a.kind = 2 := congrArg FV.kind h1
    have k2 : b.kind = 1 := congrArg FV.kind h2
    have k3 : c.kind = 3 := congrArg FV.kind h3
    have t1 : a.ty = 1 := congrArg FV.ty h1
    have t2 : b.ty = 1 := congrArg FV.ty h2
    have t3 : c.ty = 3 := congrArg FV.ty h3
    have x1 : a.x = sx0 := congrArg FV.x h1
    have x2 : b.x = zeroX := congrArg FV.x h2
    have x3 : c.x = sx2 := congrArg FV.x h3
    have hX0 : xOf [a, b, c] 0 = sx0 := x1
    have hX1 : xOf [a, b, c] 1 = zeroX := x2
    have hX2 : xOf [a, b, c] 2 = sx2 := x3
    have hb : bareB b.x.d b.m = true := by
      obtain ⟨g, _, _, _, his⟩ := hr 1 (by simp)
      have his : IsP P w b.x b.x.d b.B b.m := his
      rw [x2] at his ⊢
      exact bare_zero his
    have d1 : ¬ (⟨#[98]⟩ : ByteArray) = ⟨#[97]⟩ := by decide
    have d2 : ¬ (⟨#[98]⟩ : ByteArray) = ⟨#[99]⟩ := by decide
    have d3 : ¬ (⟨#[97]⟩ : ByteArray) = ⟨#[99]⟩ := by decide
    have p97 : atF [a.fd, b.fd, c.fd] ⟨#[97]⟩ = 1 := by
      show atF (⟨a.nm, _, _, _, _, _, _⟩ :: ⟨b.nm, _, _, _, _, _, _⟩ :: _) _ = 1
      rw [n1, n2]; unfold atF; rw [if_neg d1]; unfold atF; rw [if_pos rfl]
    have p98 : atF [a.fd, b.fd, c.fd] ⟨#[98]⟩ = 0 := by
      show atF (⟨a.nm, _, _, _, _, _, _⟩ :: _) _ = 0
      rw [n1]; unfold atF; rw [if_pos rfl]
    have p99 : atF [a.fd, b.fd, c.fd] ⟨#[99]⟩ = 2 := by
      show atF (⟨a.nm, _, _, _, _, _, _⟩ :: ⟨b.nm, _, _, _, _, _, _⟩ :: ⟨c.nm, _, _, _, _, _, _⟩ :: _) _ = 2
      rw [n1, n2, n3]; unfold atF; rw [if_neg d2]; unfold atF; rw [if_neg d3]; unfold atF; rw [if_pos rfl]
    have f97 : fieldT (fts [a.fd, b.fd, c.fd]) ⟨#[97]⟩ = (1, 0) := by
      show fieldT ((a.nm, a.ty) :: (b.nm, b.ty) :: _) _ = _
      rw [n1, n2, t2]; unfold fieldT; rw [if_neg d1]; unfold fieldT; rw [if_pos rfl]
    have f98 : fieldT (fts [a.fd, b.fd, c.fd]) ⟨#[98]⟩ = (1, 0) := by
      show fieldT ((a.nm, a.ty) :: _) _ = _
      rw [n1, t1]; unfold fieldT; rw [if_pos rfl]
    have hF : Forms w ([a, b, c].map FE.fd) (xOf [a, b, c]) := fun k hk => by
      have hk' : k < 3 := by simpa using hk
      obtain ⟨g, _, _, _, his⟩ := hr k (by simpa using hk)
      rw [List.getElem_map, xOf_at _ _ (by simpa using hk)]
      refine ⟨?_, IsP.is _ _ _ _ his⟩
      obtain rfl | rfl | rfl : k = 0 ∨ k = 1 ∨ k = 2 := by omega
      · show a.nm.size ≤ _; rw [n1]; decide
      · show b.nm.size ≤ _; rw [n2]; decide
      · show c.nm.size ≤ _; rw [n3]; decide
    refine ⟨hF, ?_, ?_⟩
    · have hr0 : rightE a.fd sx0 = 0 := by
        show rightE ⟨a.nm, a.kind, a.ty, _, _, _, _⟩ _ = 0
        rw [n1, k1, t1]; unfold rightE
        rw [if_neg (show ¬ LexB.nameE (⟨#[98]⟩ : ByteArray).data.toList ≠ 0 by decide), if_pos (show isT 2 = true ∧ isT 1 = true by decide), if_neg (show ¬ (2 : Int) = 1 by decide)]; exact sx0_check
      have hr1 : rightE b.fd zeroX = 0 := by
        show rightE ⟨b.nm, b.kind, b.ty, b.x.d, _, b.m, _⟩ _ = 0
        rw [n2, k2, t2]; unfold rightE
        rw [if_neg (show ¬ LexB.nameE (⟨#[97]⟩ : ByteArray).data.toList ≠ 0 by decide), if_pos (show isT 1 = true ∧ isT 1 = true by decide), if_pos rfl, if_pos hb]
      have hr2 : rightE c.fd sx2 = 0 := by
        show rightE ⟨c.nm, c.kind, c.ty, _, _, _, _⟩ _ = 0
        rw [n3, k3, t3]; unfold rightE
        rw [if_neg (show ¬ LexB.nameE (⟨#[99]⟩ : ByteArray).data.toList ≠ 0 by decide), if_pos (show isT 3 = true ∧ isT 3 = true by decide), if_neg (show ¬ (3 : Int) = 1 by decide)]; exact sx2_check
      have o : ∀ j, j < 3 → ownE [a.fd, b.fd, c.fd] (xOf [a, b, c]) j = 0 := fun j hj => by
        unfold ownE
        rw [dif_pos (show j < [a.fd, b.fd, c.fd].length from hj)]
        match j, hj with
        | 0, _ => show (if rightE a.fd (xOf [a, b, c] 0) = 0 then (if atF _ a.nm < 0 then (6 : Int) else 0) else _) = 0; rw [hX0, if_pos hr0, if_neg (by omega)]
        | 1, _ => show (if rightE b.fd (xOf [a, b, c] 1) = 0 then (if atF _ b.nm < 1 then (6 : Int) else 0) else _) = 0; rw [hX1, if_pos hr1, n2, p97, if_neg (by decide)]
        | 2, _ => show (if rightE c.fd (xOf [a, b, c] 2) = 0 then (if atF _ c.nm < 2 then (6 : Int) else 0) else _) = 0; rw [hX2, if_pos hr2, n3, p99, if_neg (by decide)]
      have t : ∀ j, j < 3 → typE [a.fd, b.fd, c.fd] (xOf [a, b, c]) j = 0 := fun j hj => by
        unfold typE
        rw [dif_pos (show j < [a.fd, b.fd, c.fd].length from hj)]
        match j, hj with
        | 0, _ =>
          show srcE _ a.fd (xOf [a, b, c] 0) = 0
          unfold srcE
          show (if a.kind = 2 then fitsT _ _ a.ty else _) = 0
          rw [if_pos k1, hX0, t1]; unfold fitsT
          rw [ofT_ty sx0_check, sx0_ty _ f97]; rfl
        | 1, _ =>
          show srcE _ b.fd (xOf [a, b, c] 1) = 0
          unfold srcE
          show (if b.kind = 2 then _ else if b.kind = 3 then _ else (0 : Int)) = 0
          rw [k2, if_neg (by decide), if_neg (by decide)]
        | 2, _ =>
          show srcE _ c.fd (xOf [a, b, c] 2) = 0
          unfold srcE
          show (if c.kind = 2 then _ else if c.kind = 3 then (ofT _ _).2 else (0 : Int)) = 0
          rw [k3, if_neg (by decide), if_pos rfl, hX2, ofT_ty sx2_check, sx2_ty _ _ f98]
      show checkF [a.fd, b.fd, c.fd] (xOf [a, b, c]) = 0
      unfold checkF
      rw [if_neg (by show ¬ 14 < 3; decide)]
      show (if scan (ownE [a.fd, b.fd, c.fd] (xOf [a, b, c])) 3 = 0 then scan (typE [a.fd, b.fd, c.fd] (xOf [a, b, c])) 3 else _) = 0
      rw [scan_zero 3 o, if_pos rfl, scan_zero 3 t]
    · show [needF [a.fd, b.fd, c.fd] (xOf [a, b, c]) 0, needF [a.fd, b.fd, c.fd] (xOf [a, b, c]) 1, needF [a.fd, b.fd, c.fd] (xOf [a, b, c]) 2] = _
      have e0 : needF [a.fd, b.fd, c.fd] (xOf [a, b, c]) 0 = [1] := by
        unfold needF
        rw [dif_pos (by show 0 < 3; decide)]
        show (if a.kind = 1 then [] else _) = _
        rw [k1, if_neg (by decide), hX0]
        have : mkL (ofL sx0) = [⟨#[97]⟩] := by unfold ofL; rw [if_pos sx0_check, sx0_refs]; decide
        rw [this]
        show [plN [a.fd, b.fd, c.fd] ⟨#[97]⟩] = _
        unfold plN; rw [p97]; rfl
      have e1 : needF [a.fd, b.fd, c.fd] (xOf [a, b, c]) 1 = [] := by
        unfold needF
        rw [dif_pos (by show 1 < 3; decide)]
        show (if b.kind = 1 then [] else _) = _
        rw [k2, if_pos rfl]
      have e2 : needF [a.fd, b.fd, c.fd] (xOf [a, b, c]) 2 = [0] := by
        unfold needF
        rw [dif_pos (by show 2 < 3; decide)]
        show (if c.kind = 1 then [] else _) = _
        rw [k3, if_neg (by decide), hX2]
        have : mkL (ofL sx2) = [⟨#[98]⟩] := by unfold ofL; rw [if_pos sx2_check, sx2_refs]; decide
        rw [this]
        show [plN [a.fd, b.fd, c.fd] ⟨#[98]⟩] = _
        unfold plN; rw [p98]; rfl
      rw [e0, e1, e2]
theorem small_rank : rankF [[1], [], [0]] = [1, 0, 2] := by decide
end Go.Proofs.YtdndphagfohpnaaGreatDoor.RkS
