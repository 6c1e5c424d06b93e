/- slices.Equal on two rows of the same tokens. -/
import Derived.Test.YtjpajgpconejhaaDoorLex
import Derived.RegionTactic
import Derived.ChangeAlike
namespace Go.Proofs.YtjpajgpconejhaaDoor.LexSame
open Go.RowKit
open LexM LexB LexT Lex Kit
set_option linter.unusedVariables false

/-- A slice that holds these tokens. -/
def Holds (w : World) (ts : List Tk) (A : Option Addr) : Prop := 0 < ts.length → ∃ g, A = some ⟨g, 0, none⟩ ∧ ∀ j, j < ts.length * 6 → w.cell? ⟨g, j, none⟩ = (tksC ts)[j]?
theorem Holds.at_ {w : World} {ts : List Tk} {A : Option Addr} (h : Holds w ts A) {k : Nat} (hk : k < ts.length) : ∃ (g : Nat) (kd vk n : Int) (p : Nat) (u t : ByteArray), A = some ⟨g, 0, none⟩ ∧
    w.cell? ⟨g, k * 6, none⟩ = some (.int .i64 kd) ∧ w.cell? ⟨g, k * 6 + 1, none⟩ = some (.int .i64 p) ∧ w.cell? ⟨g, k * 6 + 2, none⟩ = some (.string u) ∧ w.cell? ⟨g, k * 6 + 3, none⟩ = some (.int .i64 vk) ∧ w.cell? ⟨g, k * 6 + 4, none⟩ = some (.int .i64 n) ∧ w.cell? ⟨g, k * 6 + 5, none⟩ = some (.string t) ∧
    kd = ts[k].kind ∧ p = ts[k].pos ∧ u = ⟨ts[k].s.toArray⟩ ∧ vk = ts[k].vk ∧ n = ts[k].n ∧ t = ⟨ts[k].t.toArray⟩ := by
  obtain ⟨g, rfl, hc⟩ := h (by omega)
  have hx : ts.drop k = ts[k] :: ts.drop (k + 1) := List.drop_eq_getElem_cons hk
  exact ⟨g, _, _, _, _, _, _, rfl, by rw [hc (k * 6) (by omega)]; exact tksC_at ts k _ _ hx 0 (by omega), by rw [hc (k * 6 + 1) (by omega)]; exact tksC_at ts k _ _ hx 1 (by omega), by rw [hc (k * 6 + 2) (by omega)]; exact tksC_at ts k _ _ hx 2 (by omega), by rw [hc (k * 6 + 3) (by omega)]; exact tksC_at ts k _ _ hx 3 (by omega), by rw [hc (k * 6 + 4) (by omega)]; exact tksC_at ts k _ _ hx 4 (by omega), by rw [hc (k * 6 + 5) (by omega)]; exact tksC_at ts k _ _ hx 5 (by omega), rfl, rfl, rfl, rfl, rfl, rfl⟩
theorem Holds.of_own {w : World} {base c : Nat} {ts : List Tk} {A : Option Addr} (h : w.ownsRow base 31 6 (.slice A ts.length c) ts.length (tksC ts)) : Holds w ts A := fun hn => by
  obtain ⟨g, cap, hA, _, _, _, _, q⟩ := own_form h hn
  injection hA with hA _ _
  exact ⟨g, hA, q⟩
theorem Holds.drewN {w : World} {ts : List Tk} {A : Option Addr} (h : Holds w ts A) (n : Nat) : Holds (w.drewN n) ts A := h

set_option maxHeartbeats 1000000 in
theorem equal_any (w : World) (ts : List Tk) (A1 A2 : Option Addr) (c1 c2 : Nat) (hl : ts.length ≤ 160) (h1 : Holds w ts A1) (h2 : Holds w ts A2) :
    Calls Tryd.prog 22 #[.slice A1 ts.length c1, .slice A2 ts.length c2] w fun e w' => e = .returned (.bool true) ∧ ∃ m, w' = w.drewN m := by
  have H1 := Lib.hid h1
  have H2 := Lib.hid h2
  clear h1 h2
  go_enter Tryd.func22, Tryd.ntmps22
  go_wp2_with fail
  go_loopw [5, 13] (fun _ i wr => ∃ k m : Nat, k ≤ ts.length ∧ i = .int .i64 k ∧ wr = w.drewN m) (fun _ i _ => ts.length - (intOf i).toNat)
  case atStart => exact ⟨0, 0, by omega, rfl, rfl⟩
  case round =>
    obtain ⟨k, m, hk, rfl, rfl⟩ := hrel
    by_cases hlt : k < ts.length
    · obtain ⟨g, kd, vk, n, p, u, t, rfl, y0, y1, y2, y3, y4, y5, e0, e1, e2, e3, e4, e5⟩ := H1.out.at_ hlt
      obtain ⟨g', kd', vk', n', p', u', t', rfl, z0, z1, z2, z3, z4, z5, f0, f1, f2, f3, f4, f5⟩ := H2.out.at_ hlt
      rw [← e0] at f0; rw [← e1] at f1; rw [← e2] at f2; rw [← e3] at f3; rw [← e4] at f4; rw [← e5] at f5
      subst f0 f1 f2 f3 f4 f5
      clear e0 e1 e2 e3 e4 e5
      go_wp2_with fail
      go_quiet (fail)
      go_wp2_with fail
      go_roundw
      case rel => exact ⟨k + 1, _, by omega, by go_num, rfl⟩
      case measure => simp [intOf]; omega
    · go_wp2_with fail
      go_ret
      exact ⟨rfl, _, rfl⟩
theorem same_any (w : World) (ts : List Tk) (A1 A2 : Option Addr) (c1 c2 : Nat) (hl : ts.length ≤ 160) (h1 : Holds w ts A1) (h2 : Holds w ts A2) :
    Calls Tryd.prog 10 #[.slice A1 ts.length c1, .slice A2 ts.length c2] w fun e w' => e = .returned (.bool true) ∧ ∃ m, w' = w.drewN m := by
  have c := equal_any w ts A1 A2 c1 c2 hl h1 h2
  have C := Lib.hid c
  clear c h1 h2
  go_enter Tryd.func10, Tryd.ntmps10
  go_wp2_with fail
  refine C.out.mono ?_; rintro e w1 ⟨rfl, m, rfl⟩
  go_wp2_with fail
  go_ret
  exact ⟨rfl, _, rfl⟩
end Go.Proofs.YtjpajgpconejhaaDoor.LexSame
