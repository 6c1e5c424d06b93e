/- Contracts of the statements' own helpers picked and within: some number of a kind, made out of any number. -/
import Derived.Test.YtehkebncdahmcaaGreatDoorChecked
import Derived.WalkKit
import Derived.ProofKit
namespace Go.Proofs.YtehkebncdahmcaaGreatDoor.Within
open Go.RowKit
set_option linter.unusedVariables false
theorem ret_int {k : IntKind} {a b : Int} (h : a = b) : Ending.returned (.int k a) = .returned (.int k b) := by rw [h]

/-- picked: a number below 'many', out of any number. -/
def pick (n many : Int) : Int := (if n < 0 then -(n + 1) else n) % many
theorem pick_bd (n many : Int) (h : 0 < many) : 0 ≤ pick n many ∧ pick n many < many :=
  ⟨Int.emod_nonneg _ (by omega), Int.emod_lt_of_pos _ h⟩

theorem picked_any (n many : Int) (w : World) (hn : (Lit.int .i64 n).wf = true) (h : 0 < many) (h2 : many ≤ 9223372036854775807) :
    Calls Tryz.prog 13 #[.int .i64 n, .int .i64 many] w fun e w' => e = .returned (.int .i64 (pick n many)) ∧ w = w' := by
  obtain ⟨b1, b2⟩ : -9223372036854775808 ≤ n ∧ n ≤ 9223372036854775807 := by
    have hh := hn
    have hmin : IntKind.i64.min = -9223372036854775808 := rfl
    have hmax : IntKind.i64.max = 9223372036854775807 := rfl
    simp only [Lit.wf, Bool.and_eq_true, decide_eq_true_eq] at hh
    omega
  clear hn
  by_cases hs : n < 0
  · obtain ⟨p, hp⟩ : ∃ p, pick n many = p := ⟨_, rfl⟩
    rw [hp]
    unfold pick at hp
    rw [if_pos hs] at hp
    have HP : Hid (-(n + 1) % many = p) := hp
    clear hp
    go_enter Tryz.func13, Tryz.ntmps13
    go_wp2
    go_ret
    exact ⟨ret_int (by rw [← Int.neg_tmod, Int.tmod_eq_emod_of_nonneg (by omega)]; exact HP.out), rfl⟩
  · obtain ⟨p, hp⟩ : ∃ p, pick n many = p := ⟨_, rfl⟩
    rw [hp]
    unfold pick at hp
    rw [if_neg hs] at hp
    have HP : Hid (n % many = p) := hp
    clear hp
    go_enter Tryz.func13, Tryz.ntmps13
    go_wp2
    go_ret
    exact ⟨ret_int (by first | rfl | exact HP.out), rfl⟩

end Go.Proofs.YtehkebncdahmcaaGreatDoor.Within
