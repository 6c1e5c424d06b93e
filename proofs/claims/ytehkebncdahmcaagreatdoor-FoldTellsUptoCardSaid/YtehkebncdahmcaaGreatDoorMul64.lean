/- The library's contract of math/bits.Mul64, laid over this seat's translation (by the shelf's own commands), and what it comes to for products of numbers in range. -/
import Derived.Shelf.Bits.Mul64
import Derived.Test.YtehkebncdahmcaaGreatDoorChecked
import Derived.WalkKit
namespace Go.Proofs.YtehkebncdahmcaaGreatDoor.Mul64
open Go.Shelf
def ren : Go.Shelf.Ren := ⟨fun | 264 => 89 | n => n, fun | 53 => 123 | 46 => 120 | n => n, fun | n => n⟩
theorem lays264 : Go.Proofs.Lays.n264 Tryz.prog ren := {
  mixed := by kernel_rfl
  f264 := Tryz.func89.trans (congrArg some (by kernel_rfl))
  t46 := Tryz.underlying120
  a46 := Tryz.isAgg120
  z46 := Tryz.sizeOf120
  v46 := Tryz.zeroValue120
  t53 := Tryz.underlying123
  a53 := Tryz.isAgg123
  z53 := Tryz.sizeOf123
  v53 := Tryz.zeroValue123 }
open Go.RowKit Go.Lib in
theorem mul64 (x y : Nat) (hx : x < 18446744073709551616) (hy : y < 18446744073709551616) (w : World) :
    Calls Tryz.prog 89 #[.int .u64 x, .int .u64 y] w fun e w' => e = .returned (.tuple #[.int .u64 ((x * y / 18446744073709551616 : Nat) : Int), .int .u64 ((x * y % 18446744073709551616 : Nat) : Int)]) ∧ w' = w := Any.bits_Mul64 lays264 x y hx hy w

/-- Two sizes in range whose product is below 2^64: no high part. -/
theorem small (x y : Nat) (w : World) (hx : x ≤ 1099511627776) (hy : y ≤ 1099511627776) (h : x * y < 18446744073709551616) :
    Calls Tryz.prog 89 #[.int .u64 x, .int .u64 y] w fun e w' => e = .returned (.tuple #[.int .u64 0, .int .u64 ((x * y : Nat) : Int)]) ∧ w = w' := by
  refine (mul64 x y (by omega) (by omega) w).mono fun e w' hh => ?_
  rw [Nat.div_eq_of_lt h, Nat.mod_eq_of_lt h] at hh
  exact ⟨hh.1, hh.2.symm⟩

theorem big (x y : Nat) (w : World) (hx : x ≤ 1099511627776) (hy : y ≤ 1099511627776) :
    Calls Tryz.prog 89 #[.int .u64 x, .int .u64 y] w fun e w' => e = .returned (.tuple #[.int .u64 ((x * y / 18446744073709551616 : Nat) : Int), .int .u64 ((x * y % 18446744073709551616 : Nat) : Int)]) ∧ w = w' :=
  (mul64 x y (by omega) (by omega) w).mono fun _ _ hh => ⟨hh.1, hh.2.symm⟩
end Go.Proofs.YtehkebncdahmcaaGreatDoor.Mul64
