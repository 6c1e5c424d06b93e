/- What is made of raw things, and the names it asks for. -/
import Derived.Test.YtdlfhldboagbeaaGreatDoorGenTop
import Derived.Test.YtdlfhldboagbeaaGreatDoorNmPut
import Derived.Test.YtdlfhldboagbeaaGreatDoorNmHas
import Derived.Test.YtdlfhldboagbeaaGreatDoorRawOpen
namespace Go.Proofs.YtdlfhldboagbeaaGreatDoor.NmG
open Go.RowKit
open ValM LexM NumM ExM NmM Kit ExL ExP ExV RawL GenL Gen GenT NmP
set_option linter.unusedVariables false

/-- What is made asks for the given fields alone. -/
theorem gn_refs {fs : List GenL.Fd} : ∀ (k : Nat) (kind : Int) (x : Ex), Gn fs k kind x → ∀ s ∈ Ex.refs x, ∃ f ∈ fs, f.nm = s := by
  have leaf : ∀ (kind : Int) (d : Nd), LeafD fs kind d → ∀ s ∈ Ex.refs (.mk d []), ∃ f ∈ fs, f.nm = s := fun kind d hl s hs => by
    rcases hl with ⟨h1, _⟩ | ⟨h1, _, _, _, f, hf, h6, _⟩
    · rw [refs_mk_neg d [] (by omega), refsL_nil] at hs; simp at hs
    · rw [refs_mk_pos d [] h1, refsL_nil] at hs
      simp at hs; subst hs
      exact ⟨f, hf, h6⟩
  intro k
  induction k with
  | zero =>
    intro kind x h s hs
    obtain ⟨d, rfl, hl⟩ := h
    exact leaf kind d hl s hs
  | succ k ih =>
    intro kind x h s hs
    rcases h with ⟨d, rfl, hl⟩ | ⟨op, ks, l, rfl, hop, hlen, hl⟩
    · exact leaf kind d hl s hs
    · have hne : op ≠ 2 := by
        rcases hop with ⟨h, _⟩ | ⟨_, ⟨h, _⟩ | ⟨h, _⟩ | ⟨h, _⟩⟩ | ⟨_, ⟨h, _⟩ | ⟨h, _⟩ | ⟨j, _, _, h, _⟩⟩ | ⟨_, _, h, _⟩ <;> omega
      rw [refs_mk_neg _ l hne] at hs
      have : ∀ (l : List Ex), (∀ x ∈ l, ∀ s ∈ Ex.refs x, ∃ f ∈ fs, f.nm = s) → ∀ s ∈ refsL l, ∃ f ∈ fs, f.nm = s := by
        intro l
        induction l with
        | nil => intro _ s hs; rw [refsL_nil] at hs; simp at hs
        | cons y l ihl =>
          intro hl s hs
          rw [refsL_cons, List.mem_append] at hs
          rcases hs with hs | hs
          · exact hl y (by simp) s hs
          · exact ihl (fun z hz => hl z (by simp [hz])) s hs
      refine this l (fun x hx => ?_) s hs
      obtain ⟨i, hi, rfl⟩ := List.getElem_of_mem hx
      exact ih _ _ (hl i hi (by omega))

/-- The second of them alone. -/
def mF : List GenL.Fd := [fd 109 1]
theorem flds_m {w : World} {B : Nat} (h : Flds w (some ⟨B, 0, none⟩) someF) : Flds w (some ⟨B, 9, none⟩) mF := fun i hi => by
  match i, hi with
  | 0, _ =>
    obtain ⟨a, ha, hf⟩ := h 1 (by simp [someF])
    obtain rfl : (⟨B, 0, none⟩ : Addr) = a := by injection ha
    exact ⟨_, rfl, by simpa [Addr.add, someF, mF] using hf⟩
  | i + 1, hi => exact absurd hi (by simp [mF])
theorem mF_nm : ∀ f ∈ mF, nmB f.nm.data.toList = true := by decide
theorem mF_sz : ∀ f ∈ mF, f.nm.size ≤ maxLen := fun f hf => by
  have : f.nm.size ≤ 1 := by
    simp only [mF, List.mem_cons, List.not_mem_nil, or_false] at hf
    subst hf; exact Nat.le_refl _
  unfold maxLen; omega
def nN : ByteArray := ⟨#[110]⟩
def nM : ByteArray := ⟨#[109]⟩
theorem name_n : LexB.nameE nN.data.toList = 0 := by decide
theorem n_ne_m : nM ≠ nN := by decide
def refN : Ex := .mk ⟨2, 0, 0, ⟨#[]⟩, nN⟩ []
theorem refN_is (w : World) : Is w refN ⟨2, 0, 0, ⟨#[]⟩, nN⟩ none 0 := is_mk.2 ⟨rfl, rfl, ⟨Nat.zero_le _, Nat.zero_le _, by decide⟩, fun j hj => absurd hj (by simp)⟩
theorem refN_check : refN.checkE = 0 := by
  unfold refN Ex.checkE
  rw [nodes_mk, depth_mk, nodesL_nil, depthL_nil, if_neg (by decide), if_neg (by decide), firstE_mk, preL_nil]
  decide
theorem refN_nodes : refN.nodes = 1 := by unfold refN; rw [nodes_mk, nodesL_nil]
/-- Putting a formula that is right where it is asked for: the error is of size or depth. -/
theorem putR_n {x y : Ex} (hx : x.checkE = 0) (hy : y.checkE = 0) : putR nN x y = (Ex.put nN y x).checkE := by
  unfold putR putE; rw [hx, hy, name_n]; rfl
theorem putR_cases {x y : Ex} (hx : x.checkE = 0) (hy : y.checkE = 0) : putR nN x y = 0 ∨ putR nN x y = 1 ∨ putR nN x y = 4 := by
  rw [putR_n hx hy]
  exact checkE_ok_cases (put_okN nN y (checkE_zero hy).2.2 x (checkE_zero hx).2.2)
theorem put_self_n {x : Ex} (hx : x.checkE = 0) : Ex.put nN refN x = x := put_self nN x (checkE_zero hx).2.2
theorem putR_self {x : Ex} (hx : x.checkE = 0) : putR nN x refN = 0 := by rw [putR_n hx refN_check, put_self_n hx, hx]
theorem putZ_self {x : Ex} (hx : x.checkE = 0) : putZ nN x refN = x := by unfold putZ; rw [putR_self hx, if_pos rfl, put_self_n hx]
theorem gn_m_none {x : Ex} (h : Gn mF 3 1 x) : nN ∉ Ex.refs x := fun hn => by
  obtain ⟨f, hf, e⟩ := gn_refs 3 1 x h nN hn
  simp only [mF, List.mem_cons, List.not_mem_nil, or_false] at hf
  subst hf
  exact absurd e (by decide)
end Go.Proofs.YtdlfhldboagbeaaGreatDoor.NmG
