/- Two formulas that are the same tree: sameExpr, SameExpr, slices.EqualFunc on operands. -/
import Derived.Test.YtehkebncdahmcaaGreatDoorEx
import Derived.ChangeAlike
namespace Go.Proofs.YtehkebncdahmcaaGreatDoor.ExS
open Go.RowKit
open ExM Kit ExL
set_option linter.unusedVariables false

/-- What a comparison of formulas promises at these formulas. -/
def SameAt (g : FuncId) (x : Ex) : Prop := ∀ (d : Nd) (A A' : Option Addr) (n n' c c' : Nat) (W : World), Is W x d A n → Is W x d A' n' →
  Calls Tryz.prog g #[.agg #[.int .i64 d.op, .int .i64 d.k, .int .i64 d.n, .string d.s, .string d.nm, .slice A n c], .agg #[.int .i64 d.op, .int .i64 d.k, .int .i64 d.n, .string d.s, .string d.nm, .slice A' n' c']] W fun e w' => e = .returned (.bool true) ∧ Below W.heap.size W w'
def Row (w : World) (A : Option Addr) (l : List Ex) : Prop := ∀ (j : Nat) (h : j < l.length), ∃ a d B n c, A = some a ∧ At w (a.add (j * 6)) d B n c ∧ Is w l[j] d B n
theorem Row.below {w w' : World} {A : Option Addr} {l : List Ex} (h : Row w A l) (hb : Below w.heap.size w w') : Row w' A l := fun j hj => by
  obtain ⟨a, d, B, n, c, e, ha, hi⟩ := h j hj
  exact ⟨a, d, B, n, c, e, ha.below hb, hi.below hb⟩
theorem is_d {w : World} {x : Ex} {d : Nd} {A : Option Addr} {n : Nat} (h : Is w x d A n) : d = x.d := by
  cases x; rw [is_mk] at h; exact h.1

set_option maxRecDepth 100000 in
set_option maxHeartbeats 1000000 in
theorem lawEqf_any (l : List Ex) (hg : ∀ x ∈ l, SameAt 11 x) (A A' : Option Addr) (c c' : Nat) (w : World) (hn : l.length ≤ maxLen) (h1 : Row w A l) (h2 : Row w A' l) :
    Calls Tryz.prog 26 #[.slice A l.length c, .slice A' l.length c', .func (.func 11) #[] #[]] w fun e w' => e = .returned (.bool true) ∧ Below w.heap.size w w' := by
  have HG := Lib.hid hg
  have H1 := Lib.hid h1
  have H2 := Lib.hid h2
  clear hg h1 h2
  unfold maxLen at hn
  go_enter Tryz.func26, Tryz.ntmps26
  go_wp2_with fail
  go_loopw [7, 8, 9, 17] (fun _ _ _ i wr => ∃ k : Nat, k ≤ l.length ∧ i = .int .i64 k ∧ Below w.heap.size w wr) (fun _ _ _ i _ => l.length - (intOf i).toNat)
  case atStart => exact ⟨0, by omega, rfl, Below.refl _ _⟩
  case round =>
    obtain ⟨k, hk, rfl, hbw⟩ := hrel
    by_cases hlt : k < l.length
    · obtain ⟨a, d, B, n, c2, rfl, hat, hi⟩ := H1.out.below hbw k hlt
      obtain ⟨a', d', B', n', c2', rfl, hat', hi'⟩ := H2.out.below hbw k hlt
      obtain rfl : d = d' := (is_d hi).trans (is_d hi').symm
      obtain ⟨h0, h1, h2, h3, h4, h5⟩ := hat
      obtain ⟨g0, g1, g2, g3, g4, g5⟩ := hat'
      have hl := cell_lt' h0
      have hl' := cell_lt' g0
      have hc := fun V (hb : Below wr.heap.size wr V) => HG.out _ (List.getElem_mem hlt) d B B' n n' c2 c2' V (hi.below hb) (hi'.below hb)
      have HC := Lib.hid hc
      have HBW := Lib.hid hbw
      clear hc hbw hi hi'
      go_wp2_with fail
      refine (HC.out _ (b_more (b_new wr _) _)).mono ?_; rintro e w1 ⟨rfl, hb1⟩
      have hb2 : Below w.heap.size w w1 := HBW.out.trans ((b_then (b_then hb1)).mono HBW.out.size)
      have HB2 := Lib.hid hb2
      clear hb1 hb2 h0 h1 h2 h3 h4 h5 g0 g1 g2 g3 g4 g5
      go_wp2_with fail
      go_roundw
      case rel => exact ⟨k + 1, by omega, by go_num, HB2.out⟩
      case measure => simp [intOf]; omega
    · go_wp2_with fail
      go_ret
      exact ⟨rfl, hbw⟩

set_option maxHeartbeats 1000000 in
theorem lawSame_any : ∀ x : Ex, SameAt 11 x := by
  refine Ex.ind fun d l ih => ?_
  intro d' A A' n n' c c' W h h'
  rw [is_mk] at h h'
  obtain ⟨rfl, rfl, ⟨hm, _⟩, hr⟩ := h
  obtain ⟨_, rfl, _, hr'⟩ := h'
  have hc := fun V (hb : Below W.heap.size W V) => lawEqf_any l ih A A' c c' V hm (Row.below hr hb) (Row.below hr' hb)
  have HC := Lib.hid hc
  clear hc ih hr hr'
  go_enter Tryz.func11, Tryz.ntmps11
  go_wp2_with fail
  refine (HC.out _ (b_more (b_new W _) _)).mono ?_; rintro e w1 ⟨rfl, hb1⟩
  have HB1 := Lib.hid hb1
  clear hb1
  go_wp2_with fail
  go_ret
  exact ⟨rfl, b_then (b_then HB1.out)⟩
end Go.Proofs.YtehkebncdahmcaaGreatDoor.ExS
