/-
  NARROWER THAN 'FOR EVERY INPUT', by the rows' own cells (each row's printed sentence says how): FormChecks: loops, laid · FormTells: loops, laid · FormFree: laid.
  DERIVED. THE GIVEN ROWS OF THIS SEAT. 3 by the template 'for every input the law returns true; each argument reads behind the call as it read before'; 0 by the template 'total and deterministic' (their statements: YtdlfhldboagbeaaGreatDoorTotals.lean).
  GIVEN WITH THE SEED: the statements are not yours to turn. If you find one false, say at which input.
  Laid BY PROGRAM, IN A SANDBOX (cutbox-rows.mjs): the forced cells as the released guide's own fill.sh prints them over the translation 8f3b60a495f8032d… (all of the seat's roots in one cut). By AI agents, Wed Nov 11 2026. No macro, syntax, notation, axiom, sorry.
-/
import Derived.Test.YtdlfhldboagbeaaGreatDoorChecked
import GoSem.Claim
import GoSem.ClaimJoined
import GoSem.ClaimMapViews
import Derived.JoinedTies
import Derived.KernelRfl
namespace Go.Proofs.YtdlfhldboagbeaaGreatDoor
/- THE CELL 'sum', in the pinned program and in every row, IS THE sha256 OF THE DUMP (.gsa) THAT YtdlfhldboagbeaaGreatDoorProg.lean LOADS. Nothing in Lean hashes anything: it is a label: what it is worth is what the hold of that sum in a sandbox is worth. -/
noncomputable def Tryz.pinned : Pinned := { name := "ytdlfhldboagbeaagreatdoor", sum := "8f3b60a495f8032dc61f4f1696cd1dda878fa59811aa1e5c59b0e893c3083cc1", checked := Tryz.checked }
namespace Rows
def none {H : Type} : Left H := { results := [], args := [] }

/- WHAT THE LISTED PACKAGE-LEVEL VARIABLES READ AS WHEN THE CALL BEGINS. Each datum BY PROGRAM (the guide's laid-datum.mjs) off the statement by which the dump's own 'gosem.cut.vars' lays the variable. In a bare row this is a premise. The card (YtdlfhldboagbeaaGreatDoorCards.lean) ties it to the program's text. -/
def laid_lychway_expr_notations {H : Type} : DataW H := .agg [.agg [.lit (.string []), .lit (.int .i64 0), .lit (.int .i64 0)], .agg [.lit (.string []), .lit (.int .i64 6), .lit (.int .i64 0)], .agg [.lit (.string []), .lit (.int .i64 6), .lit (.int .i64 0)], .agg [.lit (.string [45]), .lit (.int .i64 5), .lit (.int .i64 1)], .agg [.lit (.string [110, 111, 116]), .lit (.int .i64 5), .lit (.int .i64 1)], .agg [.lit (.string [42]), .lit (.int .i64 4), .lit (.int .i64 2)], .agg [.lit (.string [47]), .lit (.int .i64 4), .lit (.int .i64 2)], .agg [.lit (.string [37]), .lit (.int .i64 4), .lit (.int .i64 2)], .agg [.lit (.string [43]), .lit (.int .i64 3), .lit (.int .i64 2)], .agg [.lit (.string [45]), .lit (.int .i64 3), .lit (.int .i64 2)], .agg [.lit (.string [38]), .lit (.int .i64 3), .lit (.int .i64 2)], .agg [.lit (.string [60]), .lit (.int .i64 2), .lit (.int .i64 2)], .agg [.lit (.string [60, 61]), .lit (.int .i64 2), .lit (.int .i64 2)], .agg [.lit (.string [61]), .lit (.int .i64 2), .lit (.int .i64 2)], .agg [.lit (.string [33, 61]), .lit (.int .i64 2), .lit (.int .i64 2)], .agg [.lit (.string [97, 110, 100]), .lit (.int .i64 1), .lit (.int .i64 2)], .agg [.lit (.string [111, 114]), .lit (.int .i64 0), .lit (.int .i64 2)], .agg [.lit (.string [105, 102]), .lit (.int .i64 6), .lit (.int .i64 3)], .agg [.lit (.string [108, 101, 110]), .lit (.int .i64 6), .lit (.int .i64 1)]]

/-- 'lychwaylaw.FormChecks': WHATEVER THE INPUT: true; the input reads as it did. -/
def formChecksSpec : ChangeSpec := { name := "formChecks", fn := fun _ => fun
  | [d] => { results := [.lit (.bool true)], args := [d] }
  | _ => none }
def formChecksRow : OpenClaim := { program := "ytdlfhldboagbeaagreatdoor", sum := "8f3b60a495f8032dc61f4f1696cd1dda878fa59811aa1e5c59b0e893c3083cc1", func := "lychway/lychwaylaw.FormChecks", spec := "formChecks", unfollowed := true, recurses := true, named := ["lychway/expr.notations"], loops := true, apart := false, laid := [("lychway/expr.notations", laid_lychway_expr_notations)] }
def FormChecksSaid : Prop := formChecksRow.holds Tryz.pinned (OpenSpec.ofChange formChecksSpec)

/-- ITS FALSE NEIGHBOUR: 'it returns false'. Refute it at one input. -/
def formChecksWrong : ChangeSpec := { name := "formChecks", fn := fun _ => fun
  | [d] => { results := [.lit (.bool false)], args := [d] }
  | _ => none }
def FormChecksWrongFalsely : Prop := formChecksRow.holds Tryz.pinned (OpenSpec.ofChange formChecksWrong)

/-- 'lychwaylaw.FormTells': WHATEVER THE INPUT: true; the input reads as it did. -/
def formTellsSpec : ChangeSpec := { name := "formTells", fn := fun _ => fun
  | [d] => { results := [.lit (.bool true)], args := [d] }
  | _ => none }
def formTellsRow : OpenClaim := { program := "ytdlfhldboagbeaagreatdoor", sum := "8f3b60a495f8032dc61f4f1696cd1dda878fa59811aa1e5c59b0e893c3083cc1", func := "lychway/lychwaylaw.FormTells", spec := "formTells", unfollowed := true, recurses := true, named := ["lychway/expr.notations"], loops := true, apart := false, laid := [("lychway/expr.notations", laid_lychway_expr_notations)] }
def FormTellsSaid : Prop := formTellsRow.holds Tryz.pinned (OpenSpec.ofChange formTellsSpec)

/-- ITS FALSE NEIGHBOUR: 'it returns false'. Refute it at one input. -/
def formTellsWrong : ChangeSpec := { name := "formTells", fn := fun _ => fun
  | [d] => { results := [.lit (.bool false)], args := [d] }
  | _ => none }
def FormTellsWrongFalsely : Prop := formTellsRow.holds Tryz.pinned (OpenSpec.ofChange formTellsWrong)

/-- 'lychwaykeep.FormFree': WHATEVER THE INPUT: true; the input reads as it did. -/
def formFreeSpec : ChangeSpec := { name := "formFree", fn := fun _ => fun
  | [d] => { results := [.lit (.bool true)], args := [d] }
  | _ => none }
def formFreeRow : OpenClaim := { program := "ytdlfhldboagbeaagreatdoor", sum := "8f3b60a495f8032dc61f4f1696cd1dda878fa59811aa1e5c59b0e893c3083cc1", func := "lychway/lychwaykeep.FormFree", spec := "formFree", unfollowed := true, recurses := true, named := ["lychway/expr.notations"], apart := false, laid := [("lychway/expr.notations", laid_lychway_expr_notations)] }
def FormFreeSaid : Prop := formFreeRow.holds Tryz.pinned (OpenSpec.ofChange formFreeSpec)

/-- ITS FALSE NEIGHBOUR: 'it returns false'. Refute it at one input. -/
def formFreeWrong : ChangeSpec := { name := "formFree", fn := fun _ => fun
  | [d] => { results := [.lit (.bool false)], args := [d] }
  | _ => none }
def FormFreeWrongFalsely : Prop := formFreeRow.holds Tryz.pinned (OpenSpec.ofChange formFreeWrong)

/- THE SECOND FORM. 'bulk': how many values and letters a reading holds, each counted each time it is reached (what is shared counts as often as it is met; a slice's spare places count too). A statement '..UptoSaid' is the law's where the arguments, and the package variables that the reading takes, are together of bulk at most 1048576: NARROWER than '..Said'. Prove '..Said' where nothing that the law and all that it calls make is longer than what came in: it says more and counts as full. Else prove '..UptoSaid'. A law counts once. -/
mutual
def uptoBulk {H : Type} : DataW H → Nat
  | .lit (.string bytes) => bytes.length + 1
  | .lit _ => 1
  | .nil => 1
  | .ptr d => uptoBulk d + 1
  | .slice elems spare => uptoBulkAll elems + uptoBulkAll spare + 1
  | .agg parts => uptoBulkAll parts + 1
  | .iface _ d => uptoBulk d + 1
  | .map entries => uptoBulkEntries entries + 1
  | .held _ => 1
def uptoBulkAll {H : Type} : List (DataW H) → Nat
  | [] => 0
  | d :: r => uptoBulk d + uptoBulkAll r
def uptoBulkEntries {H : Type} : List (Lit × DataW H) → Nat
  | [] => 0
  | x :: r => uptoBulkEntry x + uptoBulkEntries r
def uptoBulkEntry {H : Type} : Lit × DataW H → Nat
  | (.string bytes, d) => bytes.length + uptoBulk d + 1
  | (_, d) => uptoBulk d + 1
 end
def uptoSmall : (H : Type) → List (DataW H) → Bool := fun _ ds => decide (uptoBulkAll ds ≤ 1048576)
def OpenSpec.upto (s : _root_.Go.ChangeSpec) : _root_.Go.OpenSpec := { _root_.Go.OpenSpec.ofChange s with cond := some uptoSmall }

/-- 'lychwaylaw.FormChecks', WHERE WHAT IT READS IS OF BULK AT MOST 1048576: true; the input reads as it did. -/
def formChecksUptoRow : OpenClaim := { program := "ytdlfhldboagbeaagreatdoor", sum := "8f3b60a495f8032dc61f4f1696cd1dda878fa59811aa1e5c59b0e893c3083cc1", func := "lychway/lychwaylaw.FormChecks", spec := "formChecks", unfollowed := true, recurses := true, named := ["lychway/expr.notations"], loops := true, apart := false, laid := [("lychway/expr.notations", laid_lychway_expr_notations)], narrowed := true }
def FormChecksUptoSaid : Prop := formChecksUptoRow.holds Tryz.pinned (OpenSpec.upto formChecksSpec)

/-- 'lychwaylaw.FormTells', WHERE WHAT IT READS IS OF BULK AT MOST 1048576: true; the input reads as it did. -/
def formTellsUptoRow : OpenClaim := { program := "ytdlfhldboagbeaagreatdoor", sum := "8f3b60a495f8032dc61f4f1696cd1dda878fa59811aa1e5c59b0e893c3083cc1", func := "lychway/lychwaylaw.FormTells", spec := "formTells", unfollowed := true, recurses := true, named := ["lychway/expr.notations"], loops := true, apart := false, laid := [("lychway/expr.notations", laid_lychway_expr_notations)], narrowed := true }
def FormTellsUptoSaid : Prop := formTellsUptoRow.holds Tryz.pinned (OpenSpec.upto formTellsSpec)

/-- 'lychwaykeep.FormFree', WHERE WHAT IT READS IS OF BULK AT MOST 1048576: true; the input reads as it did. -/
def formFreeUptoRow : OpenClaim := { program := "ytdlfhldboagbeaagreatdoor", sum := "8f3b60a495f8032dc61f4f1696cd1dda878fa59811aa1e5c59b0e893c3083cc1", func := "lychway/lychwaykeep.FormFree", spec := "formFree", unfollowed := true, recurses := true, named := ["lychway/expr.notations"], apart := false, laid := [("lychway/expr.notations", laid_lychway_expr_notations)], narrowed := true }
def FormFreeUptoSaid : Prop := formFreeUptoRow.holds Tryz.pinned (OpenSpec.upto formFreeSpec)

end Rows
end Go.Proofs.YtdlfhldboagbeaaGreatDoor
