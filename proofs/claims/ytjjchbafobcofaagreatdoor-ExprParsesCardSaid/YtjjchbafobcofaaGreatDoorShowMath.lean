/- Plain mathematics: the notation of a value (P2.3). No program is named here. -/
import GoSem.Claim
import Derived.Test.YtjjchbafobcofaaGreatDoorBase
import Derived.Lib.UnsafeStr
import Derived.Lib.ItoaNum
import Derived.Lib.Small
namespace Go.Proofs.YtjjchbafobcofaaGreatDoor.ShowM
open ValM

/-- The bytes of a text between its double quotes. -/
def escL (l : List UInt8) : List UInt8 := l.flatMap fun c => if c = 34 ∨ c = 92 then [92, c] else [c]
def quoteL (l : List UInt8) : List UInt8 := 34 :: (escL l ++ [34])
def showL (k n : Int) (l : List UInt8) : List UInt8 :=
  if k = 2 then Lib.formatBool (decide (n = 1)) else if k = 3 then quoteL l else if k = 4 then [63] else if k = 5 then 33 :: Lib.itoa n else Lib.itoa n

theorem escL_nil : escL [] = [] := rfl
theorem escL_snoc (l : List UInt8) (c : UInt8) : escL (l ++ [c]) = escL l ++ (if c = 34 ∨ c = 92 then [92, c] else [c]) := by
  unfold escL; rw [List.flatMap_append]; simp
theorem escL_len (l : List UInt8) : (escL l).length ≤ 2 * l.length := by
  induction l with
  | nil => simp [escL]
  | cons c l ih =>
    have : escL (c :: l) = (if c = 34 ∨ c = 92 then [92, c] else [c]) ++ escL l := by unfold escL; rw [List.flatMap_cons]
    rw [this, List.length_append, List.length_cons]
    split <;> simp <;> omega
theorem escL_step (s : ByteArray) (k : Nat) (h : k < s.size) : escL (s.data.toList.take (k + 1)) = escL (s.data.toList.take k) ++ (if s[k] = 34 ∨ s[k] = 92 then [92, s[k]] else [s[k]]) := by
  rw [take_snoc s k h, escL_snoc]
theorem escL_all (s : ByteArray) (k : Nat) (h : s.size ≤ k) : escL (s.data.toList.take k) = escL s.data.toList := by
  rw [List.take_of_length_le (by simpa using h)]
theorem byte_eq (c : UInt8) (n : Nat) (hn : n < 256) : c = UInt8.ofNat n ↔ c.toNat = n := by
  rw [← UInt8.toNat_inj, UInt8.toNat_ofNat', Nat.mod_eq_of_lt (by simpa using hn)]
theorem cells_snoc (l : List UInt8) (c : UInt8) : Lib.byteCells l ++ [Value.int .u8 c.toNat] = Lib.byteCells (l ++ [c]) := by simp [Lib.byteCells]
theorem len_take (s : ByteArray) (k : Nat) (h : s.size ≤ 1000) : (Lib.byteCells (34 :: escL (s.data.toList.take k))).length ≤ 2001 := by
  rw [Lib.byteCells_length, List.length_cons]
  have := escL_len (s.data.toList.take k)
  have h2 : (s.data.toList.take k).length ≤ s.size := by rw [List.length_take, len_size]; omega
  omega
end Go.Proofs.YtjjchbafobcofaaGreatDoor.ShowM
