/- Contract of the reference's ValueText (P2.3). -/
import Derived.Test.YtbkbhkgkfolalaaGreatDoorShow
import Derived.Test.YtbkbhkgkfolalaaGreatDoorValue
namespace Go.Proofs.YtbkbhkgkfolalaaGreatDoor.ShowRef
open Go.RowKit
open NumM ValM ShowM Kit Show
set_option linter.unusedVariables false

theorem fb_true : Lib.formatBool true = [116, 114, 117, 101] := by first | rfl | decide
theorem fb_false : Lib.formatBool false = [102, 97, 108, 115, 101] := by first | rfl | decide
/-- What stands in s behind k bytes of the text. -/
structure TInv (s : ByteArray) (k : Nat) (t : ByteArray) : Prop where
  le : k ≤ s.size
  is : t.data.toList = 34 :: escL (s.data.toList.take k)

theorem TInv.size {s t : ByteArray} {k : Nat} (h : TInv s k t) (hs : s.size ≤ 1000) : t.size ≤ 2001 := by
  have := len_take s k hs
  rw [Lib.byteCells_length, ← h.is, len_size] at this
  exact this

theorem extract_one (s : ByteArray) (k : Nat) (h : k < s.size) : (s.extract k (k + 1)).data.toList = [s[k]] ∧ (s.extract k (k + 1)).size = 1 := by
  have e : (s.extract k (k + 1)).data.toList = [s[k]] := by
    rw [Lib.extract_data]
    rw [show k + 1 - k = 1 by omega, List.drop_eq_getElem_cons (show k < s.data.toList.length by rw [len_size]; exact h)]
    rfl
  exact ⟨e, by rw [← len_size, e]; rfl⟩

end Go.Proofs.YtbkbhkgkfolalaaGreatDoor.ShowRef
