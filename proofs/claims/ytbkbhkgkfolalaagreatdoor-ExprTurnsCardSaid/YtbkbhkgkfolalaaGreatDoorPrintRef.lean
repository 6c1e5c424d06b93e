/- The reference's closeness, bracketed, exprText. -/
import Derived.Test.YtbkbhkgkfolalaaGreatDoorPrinted
import Derived.Test.YtbkbhkgkfolalaaGreatDoorShowRef
namespace Go.Proofs.YtbkbhkgkfolalaaGreatDoor.PrR
open Go.RowKit
open ValM LexM ExM ShowM PrM Kit ExL ExN ExV GenL Prn
set_option linter.unusedVariables false

/-- The sign that closeness tells. -/
def csF (op : Int) : List UInt8 := if op = 1 ∨ op = 2 ∨ op = 17 ∨ op = 18 then [] else if op = 4 then signF op ++ [32] else signF op
theorem cs_len (op : Int) : (csF op).length ≤ 4 := by
  have := rwF_len op
  unfold csF
  split
  · simp
  · split
    · simp; omega
    · omega
theorem one_txt (l : List Ex) (h : l.length = 1) (h0 : 0 < l.length) : commas (l.map Ex.txt) = Ex.txt l[0] := by
  match l, h, h0 with
  | [x], _, _ => rfl
theorem three_txt (l : List Ex) (h : l.length = 3) (h0 : 0 < l.length) (h1 : 1 < l.length) (h2 : 2 < l.length) : commas (l.map Ex.txt) = Ex.txt l[0] ++ (([44, 32] : List UInt8) ++ (Ex.txt l[1] ++ (([44, 32] : List UInt8) ++ Ex.txt l[2]))) := by
  match l, h, h0, h1, h2 with
  | [x, y, z], _, _, _, _ => rfl

end Go.Proofs.YtbkbhkgkfolalaaGreatDoor.PrR
