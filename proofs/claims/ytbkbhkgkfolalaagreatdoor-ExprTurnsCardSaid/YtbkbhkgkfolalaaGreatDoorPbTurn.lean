/- What expr.Parse makes of any text: a formula whose notation is no longer, but for blanks (P4.3, P4.4). -/
import Derived.Test.YtbkbhkgkfolalaaGreatDoorPbRead
import Derived.Test.YtbkbhkgkfolalaaGreatDoorPbLen
namespace Go.Proofs.YtbkbhkgkfolalaaGreatDoor.PbU
open ValM LexM ExM PrM PsM PbL PbT PbP PbN PsE
set_option linter.unusedVariables false

theorem pr_any {l : List UInt8} {x : Ex} {a er : Int} (h : PR l x a er) : (er ≠ 0 ∧ x = x0) ∨ (er = 0 ∧ x.checkE = 0 ∧ nsp (Ex.txt x) ≤ l.length) := by
  rcases h with ⟨p, e, h1, h2, h3, _, rfl⟩ | ⟨ts, o, h1, h2, h3⟩
  · exact .inl ⟨h2, h3⟩
  · rcases h3 with ⟨y, rfl, _, h5, h6⟩ | ⟨r, _, _, h5, h6⟩
    · by_cases hc : y.checkE = 0
      · rw [if_pos hc] at h6
        subst h6
        refine .inr ⟨by omega, hc, ?_⟩
        have ht : tokens l 0 = .ok ts := by
          rcases Nat.lt_or_ge 160 l.length with hl | hl
          · rw [lexR_long hl] at h1
            simp only [Prod.mk.injEq] at h1
            exact absurd h1.2.2 (by decide)
          · rw [lexR_of hl] at h1
            cases hr : tokens l 0 with
            | bad p e =>
              rw [hr] at h1
              simp only [fin, Prod.mk.injEq] at h1
              have := (wrong l 0 p e hr).2.2.1
              omega
            | ok us =>
              rw [hr] at h1
              simp only [fin, List.nil_append, Prod.mk.injEq] at h1
              rw [h1.1]
        exact read_len ht h2 (checkE_zero hc).2.2
      · rw [if_neg hc] at h6
        exact .inl ⟨by omega, h6⟩
    · exact .inl ⟨by omega, h6⟩
def xa : Ex := .mk ⟨2, 0, 0, ⟨#[]⟩, ⟨#[97]⟩⟩ []
theorem xa_ok : xa.checkE = 0 ∧ Ex.txt xa = [97] := by
  refine ⟨?_, ?_⟩
  · unfold xa Ex.checkE
    rw [nodes_mk, depth_mk, nodesL_nil, depthL_nil, if_neg (by decide), if_neg (by decide), firstE_mk]
    rw [if_pos (by decide), preL_nil]; rfl
  · unfold xa; rw [txt_mk]; rfl
end Go.Proofs.YtbkbhkgkfolalaaGreatDoor.PbU
