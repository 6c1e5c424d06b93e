/- What expr.Parse makes of a printed formula (P4.3, P4.4). -/
import Derived.Test.YtbkbhkgkfolalaaGreatDoorPsParse
import Derived.Test.YtbkbhkgkfolalaaGreatDoorPbParse
namespace Go.Proofs.YtbkbhkgkfolalaaGreatDoor.PbR
open ValM LexM ExM PrM PsM PbL PbT PbP PsE
set_option linter.unusedVariables false

theorem bt_ne {x : Ex} (h : x.okN) : Ex.bt x ≠ [] := by
  obtain ⟨d, l⟩ := x
  rw [bt_mk]
  unfold btF
  split
  · simp
  · split
    · simp
    · split <;> simp
theorem txt_ne {x : Ex} (h : x.okN) : Ex.txt x ≠ [] := fun e => by
  obtain ⟨ts, e1, e2⟩ := tokens_txt h 0
  rw [e, tokens_nil] at e2
  injection e2 with e2
  subst e2
  exact bt_ne h e1.symm
theorem pr_long {l : List UInt8} (hl : 160 < l.length) {y : Ex} {a er : Int} (h : PR l y a er) : er = 1 := by
  rcases h with ⟨p, e, h1, _, _, _, rfl⟩ | ⟨ts, o, h1, _⟩
  · rw [lexR_long hl] at h1
    simp only [Prod.mk.injEq] at h1
    exact h1.2.2.symm
  · rw [lexR_long hl] at h1
    simp only [Prod.mk.injEq] at h1
    exact absurd h1.2.2 (by decide)
theorem pr_of {l : List UInt8} {x : Ex} (hc : x.checkE = 0) (hr : ∃ ts, lexR l = (ts, 0, 0) ∧ Ev (.form 0) ts (.ok [x] [])) {y : Ex} {a er : Int} (h : PR l y a er) : er = 0 ∧ y = x := by
  obtain ⟨ts, hl, hev⟩ := hr
  rcases h with ⟨p, e, h1, h2, _⟩ | ⟨us, o, h1, h2, h3⟩
  · rw [hl] at h1
    simp only [Prod.mk.injEq] at h1
    exact absurd h1.2.2.symm h2
  · rw [hl] at h1
    simp only [Prod.mk.injEq] at h1
    obtain ⟨rfl, _⟩ := h1
    obtain rfl := h2.unique hev
    rcases h3 with ⟨z, e, _, h5, h6⟩ | ⟨r, ⟨z, e, hn⟩ | e, _⟩
    · simp only [Out.ok.injEq, List.cons.injEq, and_true] at e
      subst e
      rw [if_pos hc] at h6
      exact ⟨h5.trans hc, h6⟩
    · simp only [Out.ok.injEq] at e
      exact absurd e.2.symm hn
    · cases e
theorem pr_txt {x : Ex} (hc : x.checkE = 0) {y : Ex} {a er : Int} (h : PR (Ex.txt x) y a er) : (160 < (Ex.txt x).length ∧ er = 1) ∨ ((Ex.txt x).length ≤ 160 ∧ er = 0 ∧ y = x) := by
  rcases Nat.lt_or_ge 160 (Ex.txt x).length with hl | hl
  · exact .inl ⟨hl, pr_long hl h⟩
  · exact .inr ⟨hl, pr_of hc (read_txt (checkE_zero hc).2.2 hl) h⟩
theorem pr_brackets {x : Ex} (hc : x.checkE = 0) {y : Ex} {a er : Int} (h : PR ([32, 40, 32] ++ Ex.txt x ++ [32, 41, 32]) y a er) : (154 < (Ex.txt x).length ∧ er = 1) ∨ ((Ex.txt x).length ≤ 154 ∧ er = 0 ∧ y = x) := by
  rcases Nat.lt_or_ge 154 (Ex.txt x).length with hl | hl
  · exact .inl ⟨hl, pr_long (by simp; omega) h⟩
  · exact .inr ⟨hl, pr_of hc (read_brackets (checkE_zero hc).2.2 hl) h⟩
end Go.Proofs.YtbkbhkgkfolalaaGreatDoor.PbR
