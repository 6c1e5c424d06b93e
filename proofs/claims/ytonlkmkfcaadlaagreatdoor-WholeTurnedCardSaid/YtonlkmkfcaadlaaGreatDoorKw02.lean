/- Num Value Fld: what these laws name of them. -/
import Derived.Deep.QuietTactic
import Derived.BigQuiet
import Derived.WalkSmall
import Derived.Test.YtonlkmkfcaadlaaGreatDoorKw01
namespace Go.Proofs.YtonlkmkfcaadlaaGreatDoor
set_option linter.unusedVariables false
namespace Num
open Go.RowKit
open NumM
set_option linter.unusedVariables false
theorem ret_int {k:IntKind} {a b:Int} (h:a=b):Ending.returned (.int k a)=.returned (.int k b):=by rw [h]
theorem ret_pair {k:IntKind} {a b c d:Int} (h:a=b) (g:c=d):Ending.returned (.tuple #[.int k a,.int k c])=.returned (.tuple #[.int k b,.int k d]):=by rw [h,g]
theorem hmf:∀ (fn:Fn) (first cap:Array Value) (w:World),(Instr.makeFunc fn first cap).run Tryz.prog w=.ok (.func fn first cap) w:=fun _ _ _ _ => rfl
theorem check_in (n:Int) (w:World) (h1:-1099511627776<=n) (h2:n<=1099511627776) :
  Calls Tryz.prog 121 #[.int .i64 n] w fun e w' => e=.returned (.int .i64 0)/\w=w':=by
 go_enter Tryz.func121,Tryz.ntmps121
 go_wp2
 go_ret
 exact ⟨rfl,rfl⟩
theorem check_out (n:Int) (w:World) (h:n < -1099511627776 ∨ 1099511627776 < n) :
  Calls Tryz.prog 121 #[.int .i64 n] w fun e w' => e=.returned (.int .i64 7)/\w=w':=by
 rcases h with h | h
 ·go_enter Tryz.func121,Tryz.ntmps121
  go_wp2
  go_ret
  exact ⟨rfl,rfl⟩
 ·have h':¬ n < -1099511627776:=by omega
  go_enter Tryz.func121,Tryz.ntmps121
  go_wp2
  go_ret
  exact ⟨rfl,rfl⟩
theorem check_any (n:Int) (w:World) :
  Calls Tryz.prog 121 #[.int .i64 n] w fun e w' => e=.returned (.int .i64 (if okN n then 0 else 7))/\w=w':=by
 by_cases h:okN n=true
 ·rw [if_pos h]; exact check_in n w (okN_iff.1 h).1 (okN_iff.1 h).2
 ·rw [if_neg h]; exact check_out n w (okN_not.1 h)
theorem mag_any (n:Int) (w:World) (h1:-1099511627776<=n) (h2:n<=1099511627776) :
  Calls Tryz.prog 196 #[.int .i64 n] w fun e w' => e=.returned (.int .i64 (n.natAbs:Int))/\w=w':=by
 by_cases h:n < 0
 ·go_enter Tryz.func196,Tryz.ntmps196
  go_wp2
  go_ret
  exact ⟨ret_int (by omega),rfl⟩
 ·go_enter Tryz.func196,Tryz.ntmps196
  go_wp2
  go_ret
  exact ⟨ret_int (by omega),rfl⟩
theorem product_zero (b:Int) (w:World) (h1:-1099511627776<=b) (h2:b<=1099511627776) :
  Calls Tryz.prog 172 #[.int .i64 0,.int .i64 b] w fun e w' => e=.returned (.int .i64 0)/\w=w':=by
 go_enter Tryz.func172,Tryz.ntmps172
 go_wp2_with fail
 go_ret
 exact ⟨by simp,rfl⟩
theorem product_in (a b:Int) (w:World) (h0:a ≠ 0) (h1:-1099511627776<=a) (h2:a<=1099511627776) (h3:-1099511627776<=b) (h4:b<=1099511627776)
  (h5:-1099511627776<=a * b) (h6:a * b<=1099511627776) :
  Calls Tryz.prog 172 #[.int .i64 a,.int .i64 b] w fun e w' => e=.returned (.int .i64 (a * b))/\w=w':=by
 have hx:¬ (1099511627776:Int) / (a.natAbs:Int) < (b.natAbs:Int):=by
  rw [Int.ediv_lt_iff_lt_mul (by omega)]
  have:=mul_sizes a b
  have e:((b.natAbs:Int) * (a.natAbs:Int))=((a * b).natAbs:Int):=by rw [this]; simp
  omega
 have hp:(1:Int)<=(a.natAbs:Int):=by omega
 go_enter Tryz.func172,Tryz.ntmps172
 go_wp2_with fail
 refine (mag_any b _ h3 h4).mono ?_
 rintro e w' ⟨rfl,rfl⟩
 go_wp2_with fail
 refine (mag_any a _ h1 h2).mono ?_
 rintro e w' ⟨rfl,rfl⟩
 go_wp2_with fail
 go_ret
 exact ⟨rfl,rfl⟩
theorem product_out (a b:Int) (w:World) (h0:a ≠ 0) (h1:-1099511627776<=a) (h2:a<=1099511627776) (h3:-1099511627776<=b) (h4:b<=1099511627776)
  (h5:a * b < -1099511627776 ∨ 1099511627776 < a * b) :
  Calls Tryz.prog 172 #[.int .i64 a,.int .i64 b] w fun e w' => e=.returned (.int .i64 1099511627777)/\w=w':=by
 have hx:(1099511627776:Int) / (a.natAbs:Int) < (b.natAbs:Int):=by
  rw [Int.ediv_lt_iff_lt_mul (by omega)]
  have:=mul_sizes a b
  have e:((b.natAbs:Int) * (a.natAbs:Int))=((a * b).natAbs:Int):=by rw [this]; simp
  omega
 have hp:(1:Int)<=(a.natAbs:Int):=by omega
 clear h5
 go_enter Tryz.func172,Tryz.ntmps172
 go_wp2_with fail
 refine (mag_any b _ h3 h4).mono ?_
 rintro e w' ⟨rfl,rfl⟩
 go_wp2_with fail
 refine (mag_any a _ h1 h2).mono ?_
 rintro e w' ⟨rfl,rfl⟩
 go_wp2_with fail
 go_ret
 exact ⟨rfl,rfl⟩
theorem add_in (a b : Int) (w : World) (h1 : -1099511627776 ≤ a) (h2 : a ≤ 1099511627776) (h3 : -1099511627776 ≤ b) (h4 : b ≤ 1099511627776)
   (h5 : -1099511627776 ≤ a + b) (h6 : a + b ≤ 1099511627776) :
    Calls Tryz.prog 145 #[.int .i64 a, .int .i64 b] w fun e w' => e = .returned (.tuple #[.int .i64 (a + b), .int .i64 0]) ∧ Below w.heap.size w w' := by
  have hm := hmf
  go_enter Tryz.func145, Tryz.ntmps145
  go_wp2
  go_ret2
  exact ⟨rfl, ((Below.refl _ _).alloc (by simp) _).alloc (by simp) _⟩
theorem add_outa (a b:Int) (w:World) (h:a < -1099511627776 ∨ 1099511627776 < a) :
  Calls Tryz.prog 145 #[.int .i64 a,.int .i64 b] w fun e w' => e=.returned (.tuple #[.int .i64 0,.int .i64 7])/\Below w.heap.size w w':=by
 have hm:=hmf
 rcases h with h | h
 all_goals
  go_enter Tryz.func145,Tryz.ntmps145
  go_wp2
  go_ret2
  exact ⟨rfl,((Below.refl _ _).alloc (by simp) _).alloc (by simp) _⟩
theorem add_outb (a b:Int) (w:World) (h1:-1099511627776<=a) (h2:a<=1099511627776) (h:b < -1099511627776 ∨ 1099511627776 < b) :
  Calls Tryz.prog 145 #[.int .i64 a,.int .i64 b] w fun e w' => e=.returned (.tuple #[.int .i64 0,.int .i64 7])/\Below w.heap.size w w':=by
 have hm:=hmf
 rcases h with h | h
 all_goals
  go_enter Tryz.func145,Tryz.ntmps145
  go_wp2
  go_ret2
  exact ⟨rfl,((Below.refl _ _).alloc (by simp) _).alloc (by simp) _⟩
theorem add_over (a b : Int) (w : World) (h1 : -1099511627776 ≤ a) (h2 : a ≤ 1099511627776) (h3 : -1099511627776 ≤ b) (h4 : b ≤ 1099511627776)
   (h : a + b < -1099511627776 ∨ 1099511627776 < a + b) :
    Calls Tryz.prog 145 #[.int .i64 a, .int .i64 b] w fun e w' => e = .returned (.tuple #[.int .i64 0, .int .i64 7]) ∧ Below w.heap.size w w' := by
  have hm := hmf
  rcases h with h | h
  all_goals
    go_enter Tryz.func145, Tryz.ntmps145
    go_wp2
    go_ret2
    exact ⟨rfl, ((Below.refl _ _).alloc (by simp) _).alloc (by simp) _⟩
theorem add_any (a b:Int) (w:World) :
  Calls Tryz.prog 145 #[.int .i64 a,.int .i64 b] w fun e w' => e=.returned (.tuple #[.int .i64 (binV a b (a + b)),.int .i64 (binE a b (a + b))])/\Below w.heap.size w w':=by
 by_cases ha:okN a=true
 ·by_cases hb:okN b=true
  ·by_cases hc:okN (a + b)=true
   ·rw [(bin_in ha hb hc).1,(bin_in ha hb hc).2]
    exact add_in a b w (okN_iff.1 ha).1 (okN_iff.1 ha).2 (okN_iff.1 hb).1 (okN_iff.1 hb).2 (okN_iff.1 hc).1 (okN_iff.1 hc).2
   ·rw [(bin_out (fun h => hc h.2.2)).1,(bin_out (fun h => hc h.2.2)).2]
    exact add_over a b w (okN_iff.1 ha).1 (okN_iff.1 ha).2 (okN_iff.1 hb).1 (okN_iff.1 hb).2 (okN_not.1 hc)
  ·rw [(bin_out (fun h => hb h.2.1)).1,(bin_out (fun h => hb h.2.1)).2]
   exact add_outb a b w (okN_iff.1 ha).1 (okN_iff.1 ha).2 (okN_not.1 hb)
 ·rw [(bin_out (fun h => ha h.1)).1,(bin_out (fun h => ha h.1)).2]
  exact add_outa a b w (okN_not.1 ha)
theorem sub_in (a b : Int) (w : World) (h1 : -1099511627776 ≤ a) (h2 : a ≤ 1099511627776) (h3 : -1099511627776 ≤ b) (h4 : b ≤ 1099511627776)
   (h5 : -1099511627776 ≤ a - b) (h6 : a - b ≤ 1099511627776) :
    Calls Tryz.prog 144 #[.int .i64 a, .int .i64 b] w fun e w' => e = .returned (.tuple #[.int .i64 (a - b), .int .i64 0]) ∧ Below w.heap.size w w' := by
  have hm := hmf
  go_enter Tryz.func144, Tryz.ntmps144
  go_wp2
  go_ret2
  exact ⟨rfl, ((Below.refl _ _).alloc (by simp) _).alloc (by simp) _⟩
theorem sub_outa (a b:Int) (w:World) (h:a < -1099511627776 ∨ 1099511627776 < a) :
  Calls Tryz.prog 144 #[.int .i64 a,.int .i64 b] w fun e w' => e=.returned (.tuple #[.int .i64 0,.int .i64 7])/\Below w.heap.size w w':=by
 have hm:=hmf
 rcases h with h | h
 all_goals
  go_enter Tryz.func144,Tryz.ntmps144
  go_wp2
  go_ret2
  exact ⟨rfl,((Below.refl _ _).alloc (by simp) _).alloc (by simp) _⟩
theorem sub_outb (a b:Int) (w:World) (h1:-1099511627776<=a) (h2:a<=1099511627776) (h:b < -1099511627776 ∨ 1099511627776 < b) :
  Calls Tryz.prog 144 #[.int .i64 a,.int .i64 b] w fun e w' => e=.returned (.tuple #[.int .i64 0,.int .i64 7])/\Below w.heap.size w w':=by
 have hm:=hmf
 rcases h with h | h
 all_goals
  go_enter Tryz.func144,Tryz.ntmps144
  go_wp2
  go_ret2
  exact ⟨rfl,((Below.refl _ _).alloc (by simp) _).alloc (by simp) _⟩
theorem sub_over (a b : Int) (w : World) (h1 : -1099511627776 ≤ a) (h2 : a ≤ 1099511627776) (h3 : -1099511627776 ≤ b) (h4 : b ≤ 1099511627776)
   (h : a - b < -1099511627776 ∨ 1099511627776 < a - b) :
    Calls Tryz.prog 144 #[.int .i64 a, .int .i64 b] w fun e w' => e = .returned (.tuple #[.int .i64 0, .int .i64 7]) ∧ Below w.heap.size w w' := by
  have hm := hmf
  rcases h with h | h
  all_goals
    go_enter Tryz.func144, Tryz.ntmps144
    go_wp2
    go_ret2
    exact ⟨rfl, ((Below.refl _ _).alloc (by simp) _).alloc (by simp) _⟩
theorem sub_any (a b:Int) (w:World) :
  Calls Tryz.prog 144 #[.int .i64 a,.int .i64 b] w fun e w' => e=.returned (.tuple #[.int .i64 (binV a b (a - b)),.int .i64 (binE a b (a - b))])/\Below w.heap.size w w':=by
 by_cases ha:okN a=true
 ·by_cases hb:okN b=true
  ·by_cases hc:okN (a - b)=true
   ·rw [(bin_in ha hb hc).1,(bin_in ha hb hc).2]
    exact sub_in a b w (okN_iff.1 ha).1 (okN_iff.1 ha).2 (okN_iff.1 hb).1 (okN_iff.1 hb).2 (okN_iff.1 hc).1 (okN_iff.1 hc).2
   ·rw [(bin_out (fun h => hc h.2.2)).1,(bin_out (fun h => hc h.2.2)).2]
    exact sub_over a b w (okN_iff.1 ha).1 (okN_iff.1 ha).2 (okN_iff.1 hb).1 (okN_iff.1 hb).2 (okN_not.1 hc)
  ·rw [(bin_out (fun h => hb h.2.1)).1,(bin_out (fun h => hb h.2.1)).2]
   exact sub_outb a b w (okN_iff.1 ha).1 (okN_iff.1 ha).2 (okN_not.1 hb)
 ·rw [(bin_out (fun h => ha h.1)).1,(bin_out (fun h => ha h.1)).2]
  exact sub_outa a b w (okN_not.1 ha)
theorem mul_in (a b : Int) (w : World) (h1 : -1099511627776 ≤ a) (h2 : a ≤ 1099511627776) (h3 : -1099511627776 ≤ b) (h4 : b ≤ 1099511627776)
   (h5 : -1099511627776 ≤ a * b) (h6 : a * b ≤ 1099511627776) :
    Calls Tryz.prog 146 #[.int .i64 a, .int .i64 b] w fun e w' => e = .returned (.tuple #[.int .i64 (a * b), .int .i64 0]) ∧ Below w.heap.size w w' := by
  have hm := hmf
  by_cases h0 : a = 0
  · subst h0
    go_enter Tryz.func146, Tryz.ntmps146
    go_wp2
    go_ret2
    exact ⟨ret_pair (by simp) rfl, ((Below.refl _ _).alloc (by simp) _).alloc (by simp) _⟩
  · go_enter Tryz.func146, Tryz.ntmps146
    go_wp2_with (first | (go_at_call 172; refine (product_in a b _ h0 h1 h2 h3 h4 h5 h6).mono ?_; rintro e w' ⟨rfl, rfl⟩) | go_in)
    go_ret2
    exact ⟨rfl, ((Below.refl _ _).alloc (by simp) _).alloc (by simp) _⟩
theorem mul_outa (a b:Int) (w:World) (h:a < -1099511627776 ∨ 1099511627776 < a) :
  Calls Tryz.prog 146 #[.int .i64 a,.int .i64 b] w fun e w' => e=.returned (.tuple #[.int .i64 0,.int .i64 7])/\Below w.heap.size w w':=by
 have hm:=hmf
 rcases h with h | h
 all_goals
  go_enter Tryz.func146,Tryz.ntmps146
  go_wp2
  go_ret2
  exact ⟨rfl,((Below.refl _ _).alloc (by simp) _).alloc (by simp) _⟩
theorem mul_outb (a b:Int) (w:World) (h1:-1099511627776<=a) (h2:a<=1099511627776) (h:b < -1099511627776 ∨ 1099511627776 < b) :
  Calls Tryz.prog 146 #[.int .i64 a,.int .i64 b] w fun e w' => e=.returned (.tuple #[.int .i64 0,.int .i64 7])/\Below w.heap.size w w':=by
 have hm:=hmf
 rcases h with h | h
 all_goals
  go_enter Tryz.func146,Tryz.ntmps146
  go_wp2
  go_ret2
  exact ⟨rfl,((Below.refl _ _).alloc (by simp) _).alloc (by simp) _⟩
theorem mul_over (a b : Int) (w : World) (h1 : -1099511627776 ≤ a) (h2 : a ≤ 1099511627776) (h3 : -1099511627776 ≤ b) (h4 : b ≤ 1099511627776)
   (h : a * b < -1099511627776 ∨ 1099511627776 < a * b) :
    Calls Tryz.prog 146 #[.int .i64 a, .int .i64 b] w fun e w' => e = .returned (.tuple #[.int .i64 0, .int .i64 7]) ∧ Below w.heap.size w w' := by
  have hm := hmf
  have h0 : a ≠ 0 := by rintro rfl; simp at h
  have hp := fun wx => product_out a b wx h0 h1 h2 h3 h4 h
  clear h
  have H := Lib.hid hp; clear hp
  go_enter Tryz.func146, Tryz.ntmps146
  go_wp2_with (first | (go_at_call 172; refine (H.out _).mono ?_; rintro e w' ⟨rfl, rfl⟩) | go_in)
  go_ret2
  exact ⟨rfl, ((Below.refl _ _).alloc (by simp) _).alloc (by simp) _⟩
theorem mul_any (a b:Int) (w:World) :
  Calls Tryz.prog 146 #[.int .i64 a,.int .i64 b] w fun e w' => e=.returned (.tuple #[.int .i64 (binV a b (a * b)),.int .i64 (binE a b (a * b))])/\Below w.heap.size w w':=by
 by_cases ha:okN a=true
 ·by_cases hb:okN b=true
  ·by_cases hc:okN (a * b)=true
   ·rw [(bin_in ha hb hc).1,(bin_in ha hb hc).2]
    exact mul_in a b w (okN_iff.1 ha).1 (okN_iff.1 ha).2 (okN_iff.1 hb).1 (okN_iff.1 hb).2 (okN_iff.1 hc).1 (okN_iff.1 hc).2
   ·rw [(bin_out (fun h => hc h.2.2)).1,(bin_out (fun h => hc h.2.2)).2]
    exact mul_over a b w (okN_iff.1 ha).1 (okN_iff.1 ha).2 (okN_iff.1 hb).1 (okN_iff.1 hb).2 (okN_not.1 hc)
  ·rw [(bin_out (fun h => hb h.2.1)).1,(bin_out (fun h => hb h.2.1)).2]
   exact mul_outb a b w (okN_iff.1 ha).1 (okN_iff.1 ha).2 (okN_not.1 hb)
 ·rw [(bin_out (fun h => ha h.1)).1,(bin_out (fun h => ha h.1)).2]
  exact mul_outa a b w (okN_not.1 ha)
end Num
namespace Num
open Go.RowKit
open NumM
set_option linter.unusedVariables false
theorem quo_even (a b:Int) (w:World) (h1:-1099511627776<=a) (h2:a<=1099511627776) (h3:-1099511627776<=b) (h4:b<=1099511627776) (hb:b ≠ 0)
  (h:a.tmod b=0) :
  Calls Tryz.prog 175 #[.int .i64 a,.int .i64 b] w fun e w' => e=.returned (.int .i64 (a.fdiv b))/\w=w':=by
 have g:=tdiv_bd a b 1099511627776 h1 h2
 obtain ⟨g1,g2⟩:=g
 rw [fdiv_same a b hb (Or.inl h)]
 go_enter Tryz.func175,Tryz.ntmps175
 go_wp2
 go_ret
 exact ⟨rfl,rfl⟩
theorem quo_same (a b:Int) (w:World) (h1:-1099511627776<=a) (h2:a<=1099511627776) (h3:-1099511627776<=b) (h4:b<=1099511627776) (hb:b ≠ 0)
  (h:a.tmod b ≠ 0) (hs:(0<=a/\0 < b) ∨ (a < 0/\b < 0)) :
  Calls Tryz.prog 175 #[.int .i64 a,.int .i64 b] w fun e w' => e=.returned (.int .i64 (a.fdiv b))/\w=w':=by
 rw [fdiv_same a b hb (by omega)]
 have g:=tdiv_bd a b 1099511627776 h1 h2
 obtain ⟨g1,g2⟩:=g
 rcases hs with ⟨k1,k2⟩ | ⟨k1,k2⟩
 ·have e1:decide (a < 0)=false:=by simpa using k1
  have e2:decide (b < 0)=false:=by simp; omega
  rw [Int.tmod_eq_emod_of_nonneg k1] at h
  go_enter Tryz.func175,Tryz.ntmps175
  go_wp2
  go_ret
  exact ⟨rfl,rfl⟩
 ·have e1:decide (a < 0)=true:=by simpa using k1
  have e2:decide (b < 0)=true:=by simpa using k2
  go_enter Tryz.func175,Tryz.ntmps175
  go_wp2
  go_ret
  exact ⟨rfl,rfl⟩
theorem quo_part (a b:Int) (w:World) (h1:-1099511627776<=a) (h2:a<=1099511627776) (h3:-1099511627776<=b) (h4:b<=1099511627776) (hb:b ≠ 0)
  (h:a.tmod b ≠ 0) (hs:(a < 0/\0 < b) ∨ (0<=a/\b < 0)) :
  Calls Tryz.prog 175 #[.int .i64 a,.int .i64 b] w fun e w' => e=.returned (.int .i64 (a.fdiv b))/\w=w':=by
 rw [fdiv_less a b hb h hs]
 have g:=tdiv_bd a b 1099511627776 h1 h2
 obtain ⟨g1,g2⟩:=g
 rcases hs with ⟨k1,k2⟩ | ⟨k1,k2⟩
 ·have e1:decide (a < 0)=true:=by simpa using k1
  have e2:decide (b < 0)=false:=by simp; omega
  go_enter Tryz.func175,Tryz.ntmps175
  go_wp2
  go_ret
  exact ⟨rfl,rfl⟩
 ·have e1:decide (a < 0)=false:=by simpa using k1
  have e2:decide (b < 0)=true:=by simpa using k2
  rw [Int.tmod_eq_emod_of_nonneg k1] at h
  go_enter Tryz.func175,Tryz.ntmps175
  go_wp2
  go_ret
  exact ⟨rfl,rfl⟩
theorem quo_any (a b:Int) (w:World) (h1:-1099511627776<=a) (h2:a<=1099511627776) (h3:-1099511627776<=b) (h4:b<=1099511627776) (hb:b ≠ 0) :
  Calls Tryz.prog 175 #[.int .i64 a,.int .i64 b] w fun e w' => e=.returned (.int .i64 (a.fdiv b))/\w=w':=by
 by_cases h:a.tmod b=0
 ·exact quo_even a b w h1 h2 h3 h4 hb h
 ·by_cases hs:(0<=a/\0 < b) ∨ (a < 0/\b < 0)
  ·exact quo_same a b w h1 h2 h3 h4 hb h hs
  ·exact quo_part a b w h1 h2 h3 h4 hb h (by omega)
theorem div_in (a b:Int) (w:World) (h1:-1099511627776<=a) (h2:a<=1099511627776) (h3:-1099511627776<=b) (h4:b<=1099511627776) (hb:b ≠ 0) :
  Calls Tryz.prog 147 #[.int .i64 a,.int .i64 b] w fun e w' => e=.returned (.tuple #[.int .i64 (a.fdiv b),.int .i64 0])/\Below w.heap.size w w':=by
 have hm:=hmf
 obtain ⟨g1,g2⟩:=fdiv_bd a b 1099511627776 hb h1 h2
 go_enter Tryz.func147,Tryz.ntmps147
 go_wp2_with (first | (go_at_call 175; refine (quo_any a b _ h1 h2 h3 h4 hb).mono ?_; rintro e w' ⟨rfl,rfl⟩) | go_in)
 go_ret2
 exact ⟨rfl,((Below.refl _ _).alloc (by simp) _).alloc (by simp) _⟩
theorem div_outa (a b:Int) (w:World) (h:a < -1099511627776 ∨ 1099511627776 < a) :
  Calls Tryz.prog 147 #[.int .i64 a,.int .i64 b] w fun e w' => e=.returned (.tuple #[.int .i64 0,.int .i64 7])/\Below w.heap.size w w':=by
 have hm:=hmf
 rcases h with h | h
 all_goals
  go_enter Tryz.func147,Tryz.ntmps147
  go_wp2
  go_ret2
  exact ⟨rfl,((Below.refl _ _).alloc (by simp) _).alloc (by simp) _⟩
theorem div_zero (a:Int) (w:World) (h1:-1099511627776<=a) (h2:a<=1099511627776) :
  Calls Tryz.prog 147 #[.int .i64 a,.int .i64 0] w fun e w' => e=.returned (.tuple #[.int .i64 0,.int .i64 8])/\Below w.heap.size w w':=by
 have hm:=hmf
 go_enter Tryz.func147,Tryz.ntmps147
 go_wp2
 go_ret2
 exact ⟨rfl,((Below.refl _ _).alloc (by simp) _).alloc (by simp) _⟩
theorem div_outb (a b:Int) (w:World) (h1:-1099511627776<=a) (h2:a<=1099511627776) (h:b < -1099511627776 ∨ 1099511627776 < b) :
  Calls Tryz.prog 147 #[.int .i64 a,.int .i64 b] w fun e w' => e=.returned (.tuple #[.int .i64 0,.int .i64 7])/\Below w.heap.size w w':=by
 have hm:=hmf
 rcases h with h | h
 all_goals
  go_enter Tryz.func147,Tryz.ntmps147
  go_wp2
  go_ret2
  exact ⟨rfl,((Below.refl _ _).alloc (by simp) _).alloc (by simp) _⟩
theorem div_any (a b:Int) (w:World) :
  Calls Tryz.prog 147 #[.int .i64 a,.int .i64 b] w fun e w' => e=.returned (.tuple #[.int .i64 (quoV a b (a.fdiv b)),.int .i64 (quoE a b (a.fdiv b))])/\Below w.heap.size w w':=by
 by_cases ha:okN a=true
 ·have a1:=(okN_iff.1 ha).1
  have a2:=(okN_iff.1 ha).2
  by_cases h0:b=0
  ·subst h0
   rw [show quoV a 0 (a.fdiv 0)=0 from if_pos rfl,show quoE a 0 (a.fdiv 0)=8 from by rw [quoE,if_pos ha,if_pos rfl]]
   exact div_zero a w a1 a2
  ·rw [show quoV a b (a.fdiv b)=binV a b (a.fdiv b) from if_neg h0,show quoE a b (a.fdiv b)=binE a b (a.fdiv b) from by rw [quoE,if_pos ha,if_neg h0]]
   by_cases hb:okN b=true
   ·have hc:=okN_iff.2 (fdiv_bd a b 1099511627776 h0 a1 a2)
    rw [(bin_in ha hb hc).1,(bin_in ha hb hc).2]
    exact div_in a b w a1 a2 (okN_iff.1 hb).1 (okN_iff.1 hb).2 h0
   ·rw [(bin_out (fun h => hb h.2.1)).1,(bin_out (fun h => hb h.2.1)).2]
    exact div_outb a b w a1 a2 (okN_not.1 hb)
 ·rw [show quoV a b (a.fdiv b)=0 from by rw [quoV,(bin_out (fun h => ha h.1)).1,ite_self],show quoE a b (a.fdiv b)=7 from by rw [quoE,if_neg ha]]
  exact div_outa a b w (okN_not.1 ha)
theorem mod_in (a b:Int) (w:World) (h1:-1099511627776<=a) (h2:a<=1099511627776) (h3:-1099511627776<=b) (h4:b<=1099511627776) (hb:b ≠ 0) :
  Calls Tryz.prog 148 #[.int .i64 a,.int .i64 b] w fun e w' => e=.returned (.tuple #[.int .i64 (a.fmod b),.int .i64 0])/\Below w.heap.size w w':=by
 have hm:=hmf
 have g:a.fmod b=a - b * a.fdiv b/\-1099511627776<=a - b * a.fdiv b/\a - b * a.fdiv b<=1099511627776:=by
  rw [Int.mul_comm b]
  rcases Int.lt_or_gt_of_ne hb with k | k
  ·obtain ⟨g1,g2,g3⟩:=fdiv_neg a b k; omega
  ·obtain ⟨g1,g2,g3⟩:=fdiv_pos a b k; omega
 obtain ⟨g1,g2,g3⟩:=g
 rw [g1]
 clear g1
 go_enter Tryz.func148,Tryz.ntmps148
 go_wp2_with (first | (go_at_call 175; refine (quo_any a b _ h1 h2 h3 h4 hb).mono ?_; rintro e w' ⟨rfl,rfl⟩) | go_in)
 go_quiet ((go_at_call 175; exact Calls.quiet_of_same ((quo_any a b _ h1 h2 h3 h4 hb).mono fun e w' h => ⟨h.1,h.2.symm⟩)))
 go_wp2_with (first | go_in)
 go_ret2
 exact ⟨rfl,below_drewN (((Below.refl _ _).alloc (by simp) _).alloc (by simp) _) _⟩
theorem mod_outa (a b:Int) (w:World) (h:a < -1099511627776 ∨ 1099511627776 < a) :
  Calls Tryz.prog 148 #[.int .i64 a,.int .i64 b] w fun e w' => e=.returned (.tuple #[.int .i64 0,.int .i64 7])/\Below w.heap.size w w':=by
 have hm:=hmf
 rcases h with h | h
 all_goals
  go_enter Tryz.func148,Tryz.ntmps148
  go_wp2
  go_ret2
  exact ⟨rfl,((Below.refl _ _).alloc (by simp) _).alloc (by simp) _⟩
theorem mod_zero (a:Int) (w:World) (h1:-1099511627776<=a) (h2:a<=1099511627776) :
  Calls Tryz.prog 148 #[.int .i64 a,.int .i64 0] w fun e w' => e=.returned (.tuple #[.int .i64 0,.int .i64 8])/\Below w.heap.size w w':=by
 have hm:=hmf
 go_enter Tryz.func148,Tryz.ntmps148
 go_wp2
 go_ret2
 exact ⟨rfl,((Below.refl _ _).alloc (by simp) _).alloc (by simp) _⟩
theorem mod_outb (a b:Int) (w:World) (h1:-1099511627776<=a) (h2:a<=1099511627776) (h:b < -1099511627776 ∨ 1099511627776 < b) :
  Calls Tryz.prog 148 #[.int .i64 a,.int .i64 b] w fun e w' => e=.returned (.tuple #[.int .i64 0,.int .i64 7])/\Below w.heap.size w w':=by
 have hm:=hmf
 rcases h with h | h
 all_goals
  go_enter Tryz.func148,Tryz.ntmps148
  go_wp2
  go_ret2
  exact ⟨rfl,((Below.refl _ _).alloc (by simp) _).alloc (by simp) _⟩
theorem mod_any (a b:Int) (w:World) :
  Calls Tryz.prog 148 #[.int .i64 a,.int .i64 b] w fun e w' => e=.returned (.tuple #[.int .i64 (quoV a b (a.fmod b)),.int .i64 (quoE a b (a.fmod b))])/\Below w.heap.size w w':=by
 by_cases ha:okN a=true
 ·have a1:=(okN_iff.1 ha).1
  have a2:=(okN_iff.1 ha).2
  by_cases h0:b=0
  ·subst h0
   rw [show quoV a 0 (a.fmod 0)=0 from if_pos rfl,show quoE a 0 (a.fmod 0)=8 from by rw [quoE,if_pos ha,if_pos rfl]]
   exact mod_zero a w a1 a2
  ·rw [show quoV a b (a.fmod b)=binV a b (a.fmod b) from if_neg h0,show quoE a b (a.fmod b)=binE a b (a.fmod b) from by rw [quoE,if_pos ha,if_neg h0]]
   by_cases hb:okN b=true
   ·have hc:=okN_iff.2 (fmod_bd a b 1099511627776 h0 (okN_iff.1 hb).1 (okN_iff.1 hb).2)
    rw [(bin_in ha hb hc).1,(bin_in ha hb hc).2]
    exact mod_in a b w a1 a2 (okN_iff.1 hb).1 (okN_iff.1 hb).2 h0
   ·rw [(bin_out (fun h => hb h.2.1)).1,(bin_out (fun h => hb h.2.1)).2]
    exact mod_outb a b w a1 a2 (okN_not.1 hb)
 ·rw [show quoV a b (a.fmod b)=0 from by rw [quoV,(bin_out (fun h => ha h.1)).1,ite_self],show quoE a b (a.fmod b)=7 from by rw [quoE,if_neg ha]]
  exact mod_outa a b w (okN_not.1 ha)
end Num
namespace NumRef
open Go.RowKit
open NumM
set_option linter.unusedVariables false
end NumRef
namespace Val
open Go.RowKit
open NumM ValM
set_option linter.unusedVariables false
theorem within_in (n a b:Int) (w:World) (h1:a<=n) (h2:n<=b) :
  Calls Tryz.prog 122 #[.int .i64 n,.int .i64 a,.int .i64 b] w fun e w' => e=.returned (.int .i64 0)/\w=w':=by
 go_enter Tryz.func122,Tryz.ntmps122
 go_wp2
 go_ret
 exact ⟨rfl,rfl⟩
theorem within_out (n a b:Int) (w:World) (h:n < a ∨ (a<=n/\b < n)) :
  Calls Tryz.prog 122 #[.int .i64 n,.int .i64 a,.int .i64 b] w fun e w' => e=.returned (.int .i64 4)/\w=w':=by
 rcases h with h | ⟨h,h'⟩
 all_goals
  go_enter Tryz.func122,Tryz.ntmps122
  go_wp2
  go_ret
  exact ⟨rfl,rfl⟩
theorem within_any (n a b:Int) (w:World) :
  Calls Tryz.prog 122 #[.int .i64 n,.int .i64 a,.int .i64 b] w fun e w' => e=.returned (.int .i64 (if a<=n/\n<=b then 0 else 4))/\w=w':=by
 by_cases h:a<=n/\n<=b
 ·rw [if_pos h]; exact within_in n a b w h.1 h.2
 ·rw [if_neg h]; exact within_out n a b w (by omega)
theorem isType_any (k:Int) (w:World) :
  Calls Tryz.prog 56 #[.int .i64 k] w fun e w' => e=.returned (.bool (isT k))/\w=w':=by
 by_cases h1:k=1
 ·subst h1
  go_enter Tryz.func56,Tryz.ntmps56
  go_wp2
  go_ret
  exact ⟨rfl,rfl⟩
 ·by_cases h2:k=2
  ·subst h2
   go_enter Tryz.func56,Tryz.ntmps56
   go_wp2
   go_ret
   exact ⟨rfl,rfl⟩
  ·by_cases h3:k=3
   ·subst h3
    go_enter Tryz.func56,Tryz.ntmps56
    go_wp2
    go_ret
    exact ⟨rfl,rfl⟩
   ·have e:isT k=false:=by simp [isT,h1,h2,h3]
    rw [e]
    have e1:(k == 1)=false:=beq_eq_false_iff_ne.2 h1
    have e2:(k == 2)=false:=beq_eq_false_iff_ne.2 h2
    have e3:(k == 3)=false:=beq_eq_false_iff_ne.2 h3
    clear h1 h2 h3 e
    go_enter Tryz.func56,Tryz.ntmps56
    go_wp2
    go_ret
    exact ⟨rfl,rfl⟩
theorem number_any (k n:Int) (s:ByteArray) (w:World) :
  Calls Tryz.prog 95 #[.agg #[.int .i64 k,.int .i64 n,.string s]] w fun e w' => e=.returned (.int .i64 (numE k n))/\Below w.heap.size w w':=by
 by_cases h1:k=1
 ·subst h1
  obtain ⟨q,hq⟩:∃ q:Int,numE 1 n=q:=⟨_,rfl⟩
  have hc:∀ W:World,Calls Tryz.prog 121 #[.int .i64 n] W fun e w' => e=.returned (.int .i64 q)/\W=w':=fun W => by rw [← hq]; exact Num.check_any n W
  rw [hq]
  have HC:=Lib.hid hc
  clear hc hq
  go_enter Tryz.func95,Tryz.ntmps95
  go_wp2_with fail
  refine (HC.out _).mono ?_; rintro e w1 ⟨rfl,rfl⟩
  go_wp2_with fail
  go_ret
  exact ⟨rfl,(Below.refl _ _).alloc (Nat.le_refl _) _⟩
 ·by_cases h2:k=2
  ·subst h2
   obtain ⟨q,hq⟩:∃ q:Int,numE 2 n=q:=⟨_,rfl⟩
   have hc:∀ W:World,Calls Tryz.prog 122 #[.int .i64 n,.int .i64 0,.int .i64 1] W fun e w' => e=.returned (.int .i64 q)/\W=w':=fun W => by rw [← hq]; exact within_any n 0 1 W
   rw [hq]
   have HC:=Lib.hid hc
   clear hc hq
   go_enter Tryz.func95,Tryz.ntmps95
   go_wp2_with fail
   refine (HC.out _).mono ?_; rintro e w1 ⟨rfl,rfl⟩
   go_wp2_with fail
   go_ret
   exact ⟨rfl,(Below.refl _ _).alloc (Nat.le_refl _) _⟩
  ·by_cases h3:k=3 ∨ k=4
   ·obtain ⟨q,hq⟩:∃ q:Int,numE k n=q:=⟨_,rfl⟩
    have hc:∀ W:World,Calls Tryz.prog 122 #[.int .i64 n,.int .i64 0,.int .i64 0] W fun e w' => e=.returned (.int .i64 q)/\W=w':=fun W => by
     have e:numE k n=if 0<=n/\n<=0 then 0 else 4:=by
      unfold numE; rw [if_neg h1,if_neg h2,if_pos h3]
      by_cases hn:n=0
      ·rw [if_pos hn,if_pos (by omega)]
      ·rw [if_neg hn,if_neg (by omega)]
     rw [← hq,e]; exact within_any n 0 0 W
    rw [hq]
    have HC:=Lib.hid hc
    clear hc hq h1 h2
    rcases h3 with rfl | rfl
    all_goals
     go_enter Tryz.func95,Tryz.ntmps95
     go_wp2_with fail
     refine (HC.out _).mono ?_; rintro e w1 ⟨rfl,rfl⟩
     go_wp2_with fail
     go_ret
     exact ⟨rfl,(Below.refl _ _).alloc (Nat.le_refl _) _⟩
   ·by_cases h5:k=5
    ·subst h5
     obtain ⟨q,hq⟩:∃ q:Int,numE 5 n=q:=⟨_,rfl⟩
     have hc:∀ W:World,Calls Tryz.prog 122 #[.int .i64 n,.int .i64 1,.int .i64 15] W fun e w' => e=.returned (.int .i64 q)/\W=w':=fun W => by rw [← hq]; exact within_any n 1 15 W
     rw [hq]
     have HC:=Lib.hid hc
     clear hc hq h1 h2 h3
     go_enter Tryz.func95,Tryz.ntmps95
     go_wp2_with fail
     refine (HC.out _).mono ?_; rintro e w1 ⟨rfl,rfl⟩
     go_wp2_with fail
     go_ret
     exact ⟨rfl,(Below.refl _ _).alloc (Nat.le_refl _) _⟩
    ·have e:numE k n=2:=by unfold numE; rw [if_neg h1,if_neg h2,if_neg h3,if_neg h5]
     rw [e]
     have e1:(k == 1)=false:=beq_eq_false_iff_ne.2 h1
     have e2:(k == 2)=false:=beq_eq_false_iff_ne.2 h2
     have e3:(k == 3)=false:=beq_eq_false_iff_ne.2 (fun g => h3 (.inl g))
     have e4:(k == 4)=false:=beq_eq_false_iff_ne.2 (fun g => h3 (.inr g))
     have e5:(k == 5)=false:=beq_eq_false_iff_ne.2 h5
     clear h1 h2 h3 h5 e
     go_enter Tryz.func95,Tryz.ntmps95
     go_wp2_with fail
     go_ret
     exact ⟨rfl,(Below.refl _ _).alloc (Nat.le_refl _) _⟩
theorem empty_b (s:ByteArray) (h:0 < s.size):(!s.toList.isEmpty)=true/\s.toList.isEmpty=false:=by
 have:=not_nil s h
 have h2:s.data.toList.isEmpty=false:=List.isEmpty_eq_false_iff.2 this
 rw [ByteArray.toList_eq,h2]
 exact ⟨rfl,rfl⟩
theorem string_other (k n:Int) (s:ByteArray) (w:World) (hk:k ≠ 3) :
  Calls Tryz.prog 96 #[.agg #[.int .i64 k,.int .i64 n,.string s]] w fun e w' => e=.returned (.int .i64 (strE k s.data.toList))/\Below w.heap.size w w':=by
 have e3:(k != 3)=true:=bne_iff_ne.2 hk
 rw [strE_other hk]
 by_cases h0:s.size=0
 ·have hs0:s=ByteArray.empty:=ByteArray.size_eq_zero_iff.1 h0
  subst hs0
  clear hk h0
  go_enter Tryz.func96,Tryz.ntmps96
  go_wp2
  go_loop [3] (fun i => i=.int .i64 0) (fun _ => 0)
  case atStart => rfl
  case round =>
   subst hrel
   go_wp2
   go_ret
   exact ⟨rfl,(Below.refl _ _).alloc (Nat.le_refl _) _⟩
 ·have hn:=not_nil s (by omega)
  obtain ⟨hne,hne'⟩:=empty_b s (by omega)
  rw [if_neg hn]
  clear hn hk h0
  go_enter Tryz.func96,Tryz.ntmps96
  go_wp2
  go_ret
  exact ⟨rfl,(Below.refl _ _).alloc (Nat.le_refl _) _⟩
theorem string_long (n:Int) (s:ByteArray) (w:World) (hs:40 < s.size) :
  Calls Tryz.prog 96 #[.agg #[.int .i64 3,.int .i64 n,.string s]] w fun e w' => e=.returned (.int .i64 1)/\Below w.heap.size w w':=by
 go_enter Tryz.func96,Tryz.ntmps96
 go_wp2
 go_ret
 exact ⟨rfl,(Below.refl _ _).alloc (Nat.le_refl _) _⟩
theorem string_short (n:Int) (s:ByteArray) (w:World) (hs:s.size<=40) :
  Calls Tryz.prog 96 #[.agg #[.int .i64 3,.int .i64 n,.string s]] w fun e w' => e=.returned (.int .i64 (strE 3 s.data.toList))/\Below w.heap.size w w':=by
 go_enter Tryz.func96,Tryz.ntmps96
 go_wp2
 go_loop [3] (fun i => ∃ k:Nat,k<=s.size/\i=.int .i64 k/\cleanL (s.data.toList.take k)=true) (fun i => s.size - (intOf i).toNat)
 case atStart => exact ⟨0,Nat.zero_le _,rfl,rfl⟩
 case round =>
  obtain ⟨k,hk,rfl,hcl⟩:=hrel
  have HC:=Lib.hid hcl
  clear hcl
  by_cases hlt:k < s.size
  ·by_cases h1:s[k].toNat < 32
   ·have h1':((s[k].toNat:Int) < 32):=by omega
    go_wp2
    go_ret
    exact ⟨Num.ret_int (strE_foul hs (cleanL_bad s k hlt (.inl h1))).symm,(Below.refl _ _).alloc (Nat.le_refl _) _⟩
   ·by_cases h2:126 < s[k].toNat
    ·go_wp2
     go_ret
     exact ⟨Num.ret_int (strE_foul hs (cleanL_bad s k hlt (.inr h2))).symm,(Below.refl _ _).alloc (Nat.le_refl _) _⟩
    ·go_wp2
     go_round
     case rel => exact ⟨k + 1,by omega,by go_num,cleanL_step s k hlt HC.out (by omega) (by omega)⟩
     case measure => simp [intOf]; omega
  ·go_wp2
   go_ret
   exact ⟨Num.ret_int (strE_clean hs (cleanL_all s k (by omega) HC.out)).symm,(Below.refl _ _).alloc (Nat.le_refl _) _⟩
theorem string_any (k n:Int) (s:ByteArray) (w:World) :
  Calls Tryz.prog 96 #[.agg #[.int .i64 k,.int .i64 n,.string s]] w fun e w' => e=.returned (.int .i64 (strE k s.data.toList))/\Below w.heap.size w w':=by
 by_cases hk:k=3
 ·subst hk
  by_cases hs:40 < s.size
  ·rw [strE_long (by rw [len_size]; exact hs)]
   exact string_long n s w hs
  ·exact string_short n s w (by omega)
 ·exact string_other k n s w hk
theorem check_any (k n:Int) (s:ByteArray) (w:World) :
  Calls Tryz.prog 74 #[.agg #[.int .i64 k,.int .i64 n,.string s]] w fun e w' => e=.returned (.int .i64 (valE k n s.data.toList))/\Below w.heap.size w w':=by
 obtain ⟨q,hq⟩:∃ q:Int,numE k n=q:=⟨_,rfl⟩
 obtain ⟨r,hr⟩:∃ r:Int,strE k s.data.toList=r:=⟨_,rfl⟩
 have hc:∀ W:World,Calls Tryz.prog 95 #[.agg #[.int .i64 k,.int .i64 n,.string s]] W fun e w' => e=.returned (.int .i64 q)/\Below W.heap.size W w':=fun W => by rw [← hq]; exact number_any k n s W
 have hd:∀ W:World,Calls Tryz.prog 96 #[.agg #[.int .i64 k,.int .i64 n,.string s]] W fun e w' => e=.returned (.int .i64 r)/\Below W.heap.size W w':=fun W => by rw [← hr]; exact string_any k n s W
 have HC:=Lib.hid hc
 have HD:=Lib.hid hd
 by_cases h0:q=0
 ·have e:valE k n s.data.toList=r:=by unfold valE; rw [hq,h0,if_pos rfl,hr]
  rw [e]
  subst h0
  clear hc hd hq hr e
  go_enter Tryz.func74,Tryz.ntmps74
  go_wp2_with fail
  refine (HC.out _).mono ?_; rintro e w1 ⟨rfl,hb1⟩
  have hz:=hb1.size
  have hc1:=hb1.cell (p:=⟨w.heap.size,0,none⟩) (by simp)
  have hc2:=hb1.cell (p:=⟨w.heap.size,1,none⟩) (by simp)
  have hc3:=hb1.cell (p:=⟨w.heap.size,2,none⟩) (by simp)
  go_wp2_with fail
  refine (HD.out _).mono ?_; rintro e w2 ⟨rfl,hb2⟩
  go_wp2_with fail
  go_ret
  exact ⟨rfl,((Below.refl _ _).alloc (Nat.le_refl _) _).trans ((hb1.trans (hb2.mono hb1.size)).mono (by simp))⟩
 ·have e:valE k n s.data.toList=q:=by unfold valE; rw [hq,if_neg h0]
  rw [e]
  have hq0:(q != 0)=true:=bne_iff_ne.2 h0
  clear hc hd hq hr e h0
  go_enter Tryz.func74,Tryz.ntmps74
  go_wp2_with fail
  refine (HC.out _).mono ?_; rintro e w1 ⟨rfl,hb1⟩
  go_wp2_with fail
  go_ret
  exact ⟨rfl,((Below.refl _ _).alloc (Nat.le_refl _) _).trans (hb1.mono (by simp))⟩
theorem known_any (k n:Int) (s:ByteArray) (w:World) :
  Calls Tryz.prog 43 #[.agg #[.int .i64 k,.int .i64 n,.string s]] w fun e w' => e=.returned (.bool (knownB k n s.data.toList))/\Below w.heap.size w w':=by
 obtain ⟨q,hq⟩:∃ q:Int,valE k n s.data.toList=q:=⟨_,rfl⟩
 obtain ⟨b,hb⟩:∃ b:Bool,isT k=b:=⟨_,rfl⟩
 have hc:∀ W:World,Calls Tryz.prog 74 #[.agg #[.int .i64 k,.int .i64 n,.string s]] W fun e w' => e=.returned (.int .i64 q)/\Below W.heap.size W w':=fun W => by rw [← hq]; exact check_any k n s W
 have hd:∀ W:World,Calls Tryz.prog 56 #[.int .i64 k] W fun e w' => e=.returned (.bool b)/\W=w':=fun W => by rw [← hb]; exact isType_any k W
 have HC:=Lib.hid hc
 have HD:=Lib.hid hd
 have hkn:knownB k n s.data.toList=(b && decide (q=0)):=by unfold knownB; rw [hb,hq]
 rw [hkn]
 clear hc hd hq hb hkn
 cases b
 ·go_enter Tryz.func43,Tryz.ntmps43
  go_wp2_with fail
  refine (HD.out _).mono ?_; rintro e w1 ⟨rfl,rfl⟩
  go_wp2_with fail
  go_ret
  exact ⟨rfl,(Below.refl _ _).alloc (Nat.le_refl _) _⟩
 ·by_cases h0:q=0
  ·subst h0
   go_enter Tryz.func43,Tryz.ntmps43
   go_wp2_with fail
   refine (HD.out _).mono ?_; rintro e w1 ⟨rfl,rfl⟩
   go_wp2_with fail
   refine (HC.out _).mono ?_; rintro e w2 ⟨rfl,hb1⟩
   go_wp2_with fail
   go_ret
   exact ⟨rfl,((Below.refl _ _).alloc (Nat.le_refl _) _).trans (hb1.mono (by simp))⟩
  ·have hq0:(q == 0)=false:=beq_eq_false_iff_ne.2 h0
   have hq1:decide (q=0)=false:=decide_eq_false h0
   rw [hq1]
   clear hq1 h0
   go_enter Tryz.func43,Tryz.ntmps43
   go_wp2_with fail
   refine (HD.out _).mono ?_; rintro e w1 ⟨rfl,rfl⟩
   go_wp2_with fail
   refine (HC.out _).mono ?_; rintro e w2 ⟨rfl,hb1⟩
   go_wp2_with fail
   go_ret
   exact ⟨rfl,((Below.refl _ _).alloc (Nat.le_refl _) _).trans (hb1.mono (by simp))⟩
theorem zero_in (k:Int) (w:World) (hk:isT k=true) :
  Calls Tryz.prog 25 #[.int .i64 k] w fun e w' => e=.returned (.tuple #[.agg #[.int .i64 k,.int .i64 0,.string ⟨#[]⟩],.int .i64 0])/\Below w.heap.size w w':=by
 have hd:∀ W:World,Calls Tryz.prog 56 #[.int .i64 k] W fun e w' => e=.returned (.bool true)/\W=w':=fun W => by rw [← hk]; exact isType_any k W
 have HD:=Lib.hid hd
 clear hd hk
 go_enter Tryz.func25,Tryz.ntmps25
 go_wp2_with fail
 refine (HD.out _).mono ?_; rintro e w1 ⟨rfl,rfl⟩
 go_wp2_with fail
 refine bodyPost_ret (v:=.tuple #[.agg #[.int .i64 k,.int .i64 0,.string ⟨#[]⟩],.int .i64 0]) (by simp [results,Tryz.results25,go_sem]) rfl ⟨rfl,(Below.refl _ _).alloc (Nat.le_refl _) _⟩
theorem zero_out (k:Int) (w:World) (hk:isT k=false) :
  Calls Tryz.prog 25 #[.int .i64 k] w fun e w' => e=.returned (.tuple #[.agg #[.int .i64 0,.int .i64 0,.string ⟨#[]⟩],.int .i64 2])/\Below w.heap.size w w':=by
 have hd:∀ W:World,Calls Tryz.prog 56 #[.int .i64 k] W fun e w' => e=.returned (.bool false)/\W=w':=fun W => by rw [← hk]; exact isType_any k W
 have HD:=Lib.hid hd
 clear hd hk
 go_enter Tryz.func25,Tryz.ntmps25
 go_wp2_with fail
 refine (HD.out _).mono ?_; rintro e w1 ⟨rfl,rfl⟩
 go_wp2_with fail
 refine bodyPost_ret (v:=.tuple #[.agg #[.int .i64 0,.int .i64 0,.string ⟨#[]⟩],.int .i64 2]) (by simp [results,Tryz.results25,go_sem]) rfl ⟨rfl,(Below.refl _ _).alloc (Nat.le_refl _) _⟩
end Val
namespace ValRef
open Go.RowKit
open NumM ValM Kit
set_option linter.unusedVariables false
end ValRef
namespace FldP
open Go.RowKit
open ValM LexM NumM ExM Kit ExL RawV Within RawL GenL
set_option linter.unusedVariables false
def atF:List GenL.Fd->ByteArray->Nat
 | [],_ => 0
 | f :: l,s => if f.nm=s then 0 else atF l s + 1
theorem atF_le:∀ (fs:List GenL.Fd) (s:ByteArray),atF fs s<=fs.length
 | [],_ => Nat.le_refl _
 | f :: l,s => by
  unfold atF
  split
  ·exact Nat.zero_le _
  ·exact Nat.succ_le_succ (atF_le l s)
theorem atF_eq:∀ (fs:List GenL.Fd) (s:ByteArray) (k:Nat) (hk:k < fs.length),(∀ j (hj:j < fs.length),j < k->fs[j].nm ≠ s)->fs[k].nm=s->atF fs s=k
 | f :: l,s,0,hk,h,he => by unfold atF; rw [if_pos (show f.nm=s from he)]
 | f :: l,s,k + 1,hk,h,he => by
  unfold atF
  rw [if_neg (show ¬ f.nm=s from h 0 (by simp) (by omega)),atF_eq l s k (by simpa using hk) (fun j hj hjk => h (j + 1) (by simpa using hj) (by omega)) he]
theorem atF_none {fs:List GenL.Fd} {s:ByteArray} (h:∀ j (hj:j < fs.length),fs[j].nm ≠ s):atF fs s=fs.length:=by
 induction fs with
 | nil => rfl
 | cons f l ih =>
  unfold atF
  rw [if_neg (show ¬ f.nm=s from h 0 (by simp)),ih fun j hj => h (j + 1) (by simpa using hj)]; rfl
theorem atF_at {fs:List GenL.Fd} {s:ByteArray} (h:atF fs s < fs.length):fs[atF fs s].nm=s/\∀ j (hj:j < fs.length),j < atF fs s->fs[j].nm ≠ s:=by
 by_cases hex:∃ j,∃ hj:j < fs.length,fs[j].nm=s
 ·obtain ⟨k,hk,hmin⟩:∃ k,(∃ hk:k < fs.length,fs[k].nm=s)/\∀ j,j < k->¬ ∃ hj:j < fs.length,fs[j].nm=s:=by
   obtain ⟨j,hj⟩:=hex
   exact Nat.strongRecOn (motive:=fun j => (∃ hj:j < fs.length,fs[j].nm=s)->∃ k,(∃ hk:k < fs.length,fs[k].nm=s)/\∀ j,j < k->¬ ∃ hj:j < fs.length,fs[j].nm=s) j (fun m ih hm => by
    by_cases h:∃ i,i < m/\∃ hi:i < fs.length,fs[i].nm=s
    ·obtain ⟨i,hi,hh⟩:=h
     exact ih i hi hh
    ·exact ⟨m,hm,fun j hj hh => h ⟨j,hj,hh⟩⟩) hj
  obtain ⟨hk,he⟩:=hk
  have e:=atF_eq fs s k hk (fun j hj hjk hh => hmin j hjk ⟨hj,hh⟩) he
  refine ⟨?_,fun j hj hjk hh => hmin j (by omega) ⟨hj,hh⟩⟩
  simp only [e]; exact he
 ·have:=atF_none (fs:=fs) (s:=s) fun j hj hh => hex ⟨j,hj,hh⟩
  omega
theorem atF_take {fs:List GenL.Fd} {s:ByteArray} {k:Nat} (hk:k<=fs.length):atF (fs.take k) s < k ↔ atF fs s < k:=by
 have hl:(fs.take k).length=k:=by simp; omega
 constructor
 ·intro h
  obtain ⟨h1,h2⟩:=atF_at (fs:=fs.take k) (s:=s) (by omega)
  have e:=atF_eq fs s (atF (fs.take k) s) (by omega) (fun j hj hjk => by have:=h2 j (by omega) hjk; simpa using this) (by simpa using h1)
  omega
 ·intro h
  obtain ⟨h1,h2⟩:=atF_at (fs:=fs) (s:=s) (by omega)
  have e:=atF_eq (fs.take k) s (atF fs s) (by omega) (fun j hj hjk => by have:=h2 j (by omega) hjk; simpa using this) (by simpa using h1)
  omega
theorem Flds.take {w:World} {A:Option Addr} {fs:List GenL.Fd} (h:Flds w A fs) (k:Nat):Flds w A (fs.take k):=fun i hi => by
 obtain ⟨a,e,hf⟩:=h i (by simp at hi; omega)
 exact ⟨a,e,by simpa using hf⟩
theorem eq_t {a b:ByteArray} (h:a=b):(a.toList == b.toList)=true:=by rw [h]; simp
theorem eq_f {a b:ByteArray} (h:¬ a=b):(a.toList == b.toList)=false:=beq_eq_false_iff_ne.2 fun e => h (by
 rw [ByteArray.toList_eq,ByteArray.toList_eq] at e
 exact ByteArray.ext (Array.ext' e))
set_option maxHeartbeats 1000000 in
theorem find_any (s:ByteArray) (fs:List GenL.Fd) (FA:Option Addr) (fc:Nat) (w:World) (hf:Flds w FA fs) (hm:fs.length<=9223372036854775807) :
  Calls Tryz.prog 63 #[.slice FA fs.length fc,.string s] w fun e w' => e=.returned (.tuple #[.int .i64 (if atF fs s < fs.length then (atF fs s:Int) else 0),.int .i64 (if atF fs s < fs.length then 0 else 5)])/\w=w':=by
 obtain ⟨R,hR⟩:∃ R:Int × Int,((if atF fs s < fs.length then (atF fs s:Int) else 0),(if atF fs s < fs.length then (0:Int) else 5))=R:=⟨_,rfl⟩
 have hgood:∀ k (hk:k < fs.length),(∀ j (hj:j < fs.length),j < k->fs[j].nm ≠ s)->fs[k].nm=s->R=((k:Int),0):=fun k hk h he => by
  rw [← hR,atF_eq fs s k hk h he,if_pos hk,if_pos hk]
 have hbad:(∀ j (hj:j < fs.length),fs[j].nm ≠ s)->R=(0,5):=fun h => by
  rw [← hR,atF_none h,if_neg (Nat.lt_irrefl _),if_neg (Nat.lt_irrefl _)]
 rw [show (if atF fs s < fs.length then (atF fs s:Int) else 0)=R.1 from congrArg Prod.fst hR,show (if atF fs s < fs.length then (0:Int) else 5)=R.2 from congrArg Prod.snd hR]
 have HG:=Lib.hid hgood
 have HB:=Lib.hid hbad
 have HF:=Lib.hid hf
 clear hgood hbad hR hf
 go_enter Tryz.func63,Tryz.ntmps63
 go_wp2_with fail
 go_loopw [6,9] (fun _ i wr => ∃ (k:Nat),i=.int .i64 k/\k<=fs.length/\(∀ j (hj:j < fs.length),j < k->fs[j].nm ≠ s)/\wr=w) (fun _ i _ => fs.length - (intOf i).toNat)
 case atStart => exact ⟨0,rfl,Nat.zero_le _,fun j hj hjk => absurd hjk (by omega),rfl⟩
 case round =>
  obtain ⟨k,rfl,hk,hall,rfl⟩:=hrel
  by_cases hlt:k < fs.length
  ·obtain ⟨a,rfl,h0,h1,h2,h3⟩:=HF.out k hlt
   have hg:=HG.out k hlt hall
   have hnext:fs[k].nm ≠ s->∀ j (hj:j < fs.length),j < k + 1->fs[j].nm ≠ s:=fun e j hj hjk => by
    rcases Nat.lt_or_ge j k with h | h
    ·exact hall j hj h
    ·obtain rfl:j=k:=by omega
     exact e
   obtain ⟨nm,hnm⟩:∃ a,fs[k].nm=a:=⟨_,rfl⟩
   rw [hnm] at hg hnext h0
   have HG2:=Lib.hid hg
   have HN:=Lib.hid hnext
   clear hg hnext hall hnm h2 h3 h1
   by_cases he:nm=s
   ·obtain rfl:=HG2.out he
    have t1:(nm.toList == s.toList)=true:=eq_t he
    go_wp2_with fail
    go_ret2
    exact ⟨rfl,rfl⟩
   ·have t1:(nm.toList == s.toList)=false:=eq_f he
    go_wp2_with fail
    go_roundw
    case rel => exact ⟨k + 1,by go_num,by omega,HN.out he,by first | rfl | trivial⟩
    case measure => simp [intOf]; omega
  ·obtain rfl:=HB.out fun j hj => hall j hj (by omega)
   clear hall
   go_wp2_with fail
   go_ret2
   exact ⟨rfl,rfl⟩
def toldE (fs:List GenL.Fd) (s:ByteArray) (k n:Int) (t:ByteArray):Int :=
 if h:atF fs s < fs.length then (if fs[atF fs s].kind=1 then (if knownB k n t.data.toList=true/\k=fs[atF fs s].ty then 0 else 9) else 2) else 5
set_option maxHeartbeats 2000000 in
theorem told_any (s:ByteArray) (k n:Int) (t:ByteArray) (fs:List GenL.Fd) (FA:Option Addr) (fc:Nat) (w:World) (hf:Flds w FA fs) (hm:fs.length<=9223372036854775807) :
  Calls Tryz.prog 99 #[.slice FA fs.length fc,.string s,.agg #[.int .i64 k,.int .i64 n,.string t]] w fun e w' => e=.returned (.int .i64 (toldE fs s k n t))/\Below w.heap.size w w':=by
 have hb0:=b_new w (.cells #[.int .i64 k,.int .i64 n,.string t] 38)
 have hfi:=find_any s fs FA fc (w.alloc (.cells #[.int .i64 k,.int .i64 n,.string t] 38)) (hf.below hb0) hm
 have hkn:=fun W => Val.known_any k n t W
 obtain ⟨R,hR⟩:∃ R,toldE fs s k n t=R:=⟨_,rfl⟩
 rw [hR]
 unfold toldE at hR
 generalize hj:atF fs s=j at hfi hR
 by_cases hlt:j < fs.length
 ·rw [if_pos hlt,if_pos hlt] at hfi
  rw [dif_pos hlt] at hR
  obtain ⟨a,rfl,hat⟩:=hf j hlt
  obtain ⟨q0,q1,q2,q3,q4,q5,q6,q7,q8⟩:=hat.of_block (hb0.block _ hat.lt)
  obtain ⟨f,hfk⟩:∃ f,fs[j]=f:=⟨_,rfl⟩
  rw [hfk] at q0 q1 q2 hR
  obtain ⟨kb,hkb⟩:∃ b,knownB k n t.data.toList=b:=⟨_,rfl⟩
  rw [hkb] at hkn hR
  have hab:a.block < w.heap.size:=by have:=hat.lt; rw [block_of_add] at this; exact this
  have HFi:=Lib.hid hfi
  have HKn:=Lib.hid hkn
  have HB0:=Lib.hid hb0
  obtain ⟨W,hW⟩:∃ W,w.alloc (.cells #[.int .i64 k,.int .i64 n,.string t] 38)=W:=⟨_,rfl⟩
  have hBx:W.heap[w.heap.size]?=some (.cells #[.int .i64 k,.int .i64 n,.string t] 38 (0,0)):=by rw [← hW]; exact World.alloc_heap_new w _
  have hcell:∀ V,Below W.heap.size W V->V.cell? ⟨w.heap.size,0,none⟩=some (.int .i64 k)/\V.cell? ⟨w.heap.size,1,none⟩=some (.int .i64 n)/\V.cell? ⟨w.heap.size,2,none⟩=some (.string t)/\V.cell? ⟨(a.add (j * 9)).block,(a.add (j * 9)).off + 1,none⟩=some (.int .i64 f.kind)/\V.cell? ⟨(a.add (j * 9)).block,(a.add (j * 9)).off + 2,none⟩=some (.int .i64 f.ty):=fun V hV => by
   have e1:V.heap[w.heap.size]?=_:=(hV.block _ (Array.getElem?_eq_some_iff.1 hBx).1).trans hBx
   have e2:V.heap[(a.add (j * 9)).block]?=W.heap[(a.add (j * 9)).block]?:=hV.block _ (by rw [← hW,World.size_alloc,block_of_add]; omega)
   rw [← hW] at e2
   exact ⟨by simp [World.cell?,e1],by simp [World.cell?,e1],by simp [World.cell?,e1],(World.cell?_of_block (a:=⟨(a.add (j * 9)).block,(a.add (j * 9)).off + 1,none⟩) e2).trans q1,(World.cell?_of_block (a:=⟨(a.add (j * 9)).block,(a.add (j * 9)).off + 2,none⟩) e2).trans q2⟩
  have HCell:=Lib.hid hcell
  obtain ⟨k0,k1,k2,k3,k4⟩:=hcell W (Below.refl _ _)
  rw [hW] at HFi HB0 q1
  have HW:=Lib.hid hW
  clear hfi hkn hat hfk hf hj q0 q1 q2 q3 q4 q5 q6 q7 q8 hkb hcell hBx hW hb0
  by_cases e1:f.kind=1
  ·rw [if_pos e1] at hR
   have t1:(f.kind != 1)=false:=by rw [e1]; rfl
   clear e1
   have hres:(kb=false/\R=9) ∨ (kb=true/\(k != f.ty)=true/\R=9) ∨ (kb=true/\(k != f.ty)=false/\R=0):=by
    cases kb
    ·exact .inl ⟨rfl,by rw [← hR,if_neg (by simp)]⟩
    ·by_cases e2:k=f.ty
     ·exact .inr (.inr ⟨rfl,by rw [e2]; simp,by rw [← hR,if_pos ⟨rfl,e2⟩]⟩)
     ·exact .inr (.inl ⟨rfl,by simpa using e2,by rw [← hR,if_neg (fun h => e2 h.2)]⟩)
   clear hR
   rcases hres with ⟨rfl,rfl⟩ | ⟨rfl,t2,rfl⟩ | ⟨rfl,t2,rfl⟩
   all_goals
    go_enter Tryz.func99,Tryz.ntmps99
    go_wp2_with fail
    rw [HW.out]
    refine HFi.out.mono ?_; rintro e w1 ⟨rfl,rfl⟩
    go_wp2_with fail
    first | (go_region_law (go_simp; go_at_call 43; (with_reducible refine (HKn.out _).mono ?_); rintro e w5 ⟨rfl,hb5⟩; have hb6:Below W.heap.size W w5:=(by first | exact hb5 | exact b_undrew hb5); obtain ⟨k0,k1,k2,k3,k4⟩:=HCell.out w5 hb6; have HB5:=Lib.hid hb6; clear hb5 hb6)) | (fail)
    all_goals
     go_wp2_with fail
     go_ret
     first | exact ⟨rfl,b_trans HB0.out HB5.out⟩ | exact ⟨rfl,b_trans HB0.out (b_drew HB5.out)⟩ | exact ⟨rfl,b_trans HB0.out (b_drew (b_drew HB5.out))⟩
  ·rw [if_neg e1] at hR
   subst hR
   have t1:(f.kind != 1)=true:=by simpa using e1
   clear e1
   go_enter Tryz.func99,Tryz.ntmps99
   go_wp2_with fail
   rw [HW.out]
   refine HFi.out.mono ?_; rintro e w1 ⟨rfl,rfl⟩
   go_wp2_with fail
   go_ret
   exact ⟨rfl,HB0.out⟩
 ·rw [if_neg hlt,if_neg hlt] at hfi
  rw [dif_neg hlt] at hR
  subst hR
  have HFi:=Lib.hid hfi
  clear hfi hkn hf hj
  go_enter Tryz.func99,Tryz.ntmps99
  go_wp2_with fail
  refine HFi.out.mono ?_; rintro e w1 ⟨rfl,rfl⟩
  go_wp2_with fail
  go_ret
  exact ⟨rfl,hb0⟩
end FldP
end Go.Proofs.YtonlkmkfcaadlaaGreatDoor
