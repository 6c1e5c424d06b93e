/- The library's contract of math/bits.Mul64, laid over this seat's translation (by the shelf's own commands), and what it comes to for products of numbers in range. -/
import Derived.Shelf.Bits.Mul64
import Derived.Test.YtehkebncdahmcaaDoorChecked
import Derived.WalkKit
namespace Go.Proofs.YtehkebncdahmcaaDoor.Mul64
open Go.Shelf
def ren : Go.Shelf.Ren := ⟨fun | 264 => 62 | n => n, fun | 53 => 97 | 46 => 111 | n => n, fun | n => n⟩
theorem lays264 : Go.Proofs.Lays.n264 Tryd.prog ren := {
  mixed := by kernel_rfl
  f264 := Tryd.func62.trans (congrArg some (by kernel_rfl))
  t46 := Tryd.underlying111
  a46 := Tryd.isAgg111
  z46 := Tryd.sizeOf111
  v46 := Tryd.zeroValue111
  t53 := Tryd.underlying97
  a53 := Tryd.isAgg97
  z53 := Tryd.sizeOf97
  v53 := Tryd.zeroValue97 }
open Go.RowKit Go.Lib in
theorem mul64 (x y : Nat) (hx : x < 18446744073709551616) (hy : y < 18446744073709551616) (w : World) :
    Calls Tryd.prog 62 #[.int .u64 x, .int .u64 y] w fun e w' => e = .returned (.tuple #[.int .u64 ((x * y / 18446744073709551616 : Nat) : Int), .int .u64 ((x * y % 18446744073709551616 : Nat) : Int)]) ∧ w' = w := Any.bits_Mul64 lays264 x y hx hy w

/-- Two sizes in range whose product is below 2^64: no high part. -/
theorem small (x y : Nat) (w : World) (hx : x ≤ 1099511627776) (hy : y ≤ 1099511627776) (h : x * y < 18446744073709551616) :
    Calls Tryd.prog 62 #[.int .u64 x, .int .u64 y] w fun e w' => e = .returned (.tuple #[.int .u64 0, .int .u64 ((x * y : Nat) : Int)]) ∧ w = w' := by
  refine (mul64 x y (by omega) (by omega) w).mono fun e w' hh => ?_
  rw [Nat.div_eq_of_lt h, Nat.mod_eq_of_lt h] at hh
  exact ⟨hh.1, hh.2.symm⟩

theorem big (x y : Nat) (w : World) (hx : x ≤ 1099511627776) (hy : y ≤ 1099511627776) :
    Calls Tryd.prog 62 #[.int .u64 x, .int .u64 y] w fun e w' => e = .returned (.tuple #[.int .u64 ((x * y / 18446744073709551616 : Nat) : Int), .int .u64 ((x * y % 18446744073709551616 : Nat) : Int)]) ∧ w = w' :=
  (mul64 x y (by omega) (by omega) w).mono fun _ _ hh => ⟨hh.1, hh.2.symm⟩
end Go.Proofs.YtehkebncdahmcaaDoor.Mul64
