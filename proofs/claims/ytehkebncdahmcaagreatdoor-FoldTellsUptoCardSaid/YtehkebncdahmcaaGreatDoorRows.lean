/-
  NARROWER THAN 'FOR EVERY INPUT', by the rows' own cells (each row's printed sentence says how): FoldTells: loops, laid · FoldSame: laid · FoldLess: laid · FoldClosed: laid.
  DERIVED. THE GIVEN ROWS OF THIS SEAT. 4 by the template 'for every input the law returns true; each argument reads behind the call as it read before'; 0 by the template 'total and deterministic' (their statements: YtehkebncdahmcaaGreatDoorTotals.lean).
  GIVEN WITH THE SEED: the statements are not yours to turn. If you find one false, say at which input.
  Laid BY PROGRAM, IN A SANDBOX (cutbox-rows.mjs): the forced cells as the released guide's own fill.sh prints them over the translation 8fa1fbedc9b88ac8… (all of the seat's roots in one cut). By AI agents, Wed Nov 11 2026. No macro, syntax, notation, axiom, sorry.
-/
import Derived.Test.YtehkebncdahmcaaGreatDoorChecked
import GoSem.Claim
import GoSem.ClaimJoined
import GoSem.ClaimMapViews
import Derived.JoinedTies
import Derived.KernelRfl
namespace Go.Proofs.YtehkebncdahmcaaGreatDoor
/- THE CELL 'sum', in the pinned program and in every row, IS THE sha256 OF THE DUMP (.gsa) THAT YtehkebncdahmcaaGreatDoorProg.lean LOADS. Nothing in Lean hashes anything: it is a label: what it is worth is what the hold of that sum in a sandbox is worth. -/
noncomputable def Tryz.pinned : Pinned := { name := "ytehkebncdahmcaagreatdoor", sum := "8fa1fbedc9b88ac8e8f6e94bdd2ecf8b9bbcb72347c3052c151aaa063dce0c0f", checked := Tryz.checked }
namespace Rows
def none {H : Type} : Left H := { results := [], args := [] }

/- WHAT THE LISTED PACKAGE-LEVEL VARIABLES READ AS WHEN THE CALL BEGINS. Each datum BY PROGRAM (the guide's laid-datum.mjs) off the statement by which the dump's own 'gosem.cut.vars' lays the variable. In a bare row this is a premise. The card (YtehkebncdahmcaaGreatDoorCards.lean) ties it to the program's text. -/
def laid_lychway_expr_notations {H : Type} : DataW H := .agg [.agg [.lit (.string []), .lit (.int .i64 0), .lit (.int .i64 0)], .agg [.lit (.string []), .lit (.int .i64 6), .lit (.int .i64 0)], .agg [.lit (.string []), .lit (.int .i64 6), .lit (.int .i64 0)], .agg [.lit (.string [45]), .lit (.int .i64 5), .lit (.int .i64 1)], .agg [.lit (.string [110, 111, 116]), .lit (.int .i64 5), .lit (.int .i64 1)], .agg [.lit (.string [42]), .lit (.int .i64 4), .lit (.int .i64 2)], .agg [.lit (.string [47]), .lit (.int .i64 4), .lit (.int .i64 2)], .agg [.lit (.string [37]), .lit (.int .i64 4), .lit (.int .i64 2)], .agg [.lit (.string [43]), .lit (.int .i64 3), .lit (.int .i64 2)], .agg [.lit (.string [45]), .lit (.int .i64 3), .lit (.int .i64 2)], .agg [.lit (.string [38]), .lit (.int .i64 3), .lit (.int .i64 2)], .agg [.lit (.string [60]), .lit (.int .i64 2), .lit (.int .i64 2)], .agg [.lit (.string [60, 61]), .lit (.int .i64 2), .lit (.int .i64 2)], .agg [.lit (.string [61]), .lit (.int .i64 2), .lit (.int .i64 2)], .agg [.lit (.string [33, 61]), .lit (.int .i64 2), .lit (.int .i64 2)], .agg [.lit (.string [97, 110, 100]), .lit (.int .i64 1), .lit (.int .i64 2)], .agg [.lit (.string [111, 114]), .lit (.int .i64 0), .lit (.int .i64 2)], .agg [.lit (.string [105, 102]), .lit (.int .i64 6), .lit (.int .i64 3)], .agg [.lit (.string [108, 101, 110]), .lit (.int .i64 6), .lit (.int .i64 1)]]

/-- 'lychwaylaw.FoldTells': WHATEVER THE INPUT: true; the input reads as it did. -/
def foldTellsSpec : ChangeSpec := { name := "foldTells", fn := fun _ => fun
  | [d] => { results := [.lit (.bool true)], args := [d] }
  | _ => none }
def foldTellsRow : OpenClaim := { program := "ytehkebncdahmcaagreatdoor", sum := "8fa1fbedc9b88ac8e8f6e94bdd2ecf8b9bbcb72347c3052c151aaa063dce0c0f", func := "lychway/lychwaylaw.FoldTells", spec := "foldTells", inPlace := ["internal/bytealg.abigen_runtime_cmpstring"], unfollowed := true, recurses := true, named := ["lychway/expr.notations"], loops := true, apart := false, laid := [("lychway/expr.notations", laid_lychway_expr_notations)] }
def FoldTellsSaid : Prop := foldTellsRow.holds Tryz.pinned (OpenSpec.ofChange foldTellsSpec)

/-- ITS FALSE NEIGHBOUR: 'it returns false'. Refute it at one input. -/
def foldTellsWrong : ChangeSpec := { name := "foldTells", fn := fun _ => fun
  | [d] => { results := [.lit (.bool false)], args := [d] }
  | _ => none }
def FoldTellsWrongFalsely : Prop := foldTellsRow.holds Tryz.pinned (OpenSpec.ofChange foldTellsWrong)

/-- 'lychwaykeep.FoldSame': WHATEVER THE INPUT: true; the input reads as it did. -/
def foldSameSpec : ChangeSpec := { name := "foldSame", fn := fun _ => fun
  | [d1, d2, d3, d4] => { results := [.lit (.bool true)], args := [d1, d2, d3, d4] }
  | _ => none }
def foldSameRow : OpenClaim := { program := "ytehkebncdahmcaagreatdoor", sum := "8fa1fbedc9b88ac8e8f6e94bdd2ecf8b9bbcb72347c3052c151aaa063dce0c0f", func := "lychway/lychwaykeep.FoldSame", spec := "foldSame", inPlace := ["internal/bytealg.abigen_runtime_cmpstring"], unfollowed := true, recurses := true, named := ["lychway/expr.notations"], apart := false, laid := [("lychway/expr.notations", laid_lychway_expr_notations)] }
def FoldSameSaid : Prop := foldSameRow.holds Tryz.pinned (OpenSpec.ofChange foldSameSpec)

/-- ITS FALSE NEIGHBOUR: 'it returns false'. Refute it at one input. -/
def foldSameWrong : ChangeSpec := { name := "foldSame", fn := fun _ => fun
  | [d1, d2, d3, d4] => { results := [.lit (.bool false)], args := [d1, d2, d3, d4] }
  | _ => none }
def FoldSameWrongFalsely : Prop := foldSameRow.holds Tryz.pinned (OpenSpec.ofChange foldSameWrong)

/-- 'lychwaykeep.FoldLess': WHATEVER THE INPUT: true; the input reads as it did. -/
def foldLessSpec : ChangeSpec := { name := "foldLess", fn := fun _ => fun
  | [d1, d2] => { results := [.lit (.bool true)], args := [d1, d2] }
  | _ => none }
def foldLessRow : OpenClaim := { program := "ytehkebncdahmcaagreatdoor", sum := "8fa1fbedc9b88ac8e8f6e94bdd2ecf8b9bbcb72347c3052c151aaa063dce0c0f", func := "lychway/lychwaykeep.FoldLess", spec := "foldLess", inPlace := ["internal/bytealg.abigen_runtime_cmpstring"], unfollowed := true, recurses := true, named := ["lychway/expr.notations"], apart := false, laid := [("lychway/expr.notations", laid_lychway_expr_notations)] }
def FoldLessSaid : Prop := foldLessRow.holds Tryz.pinned (OpenSpec.ofChange foldLessSpec)

/-- ITS FALSE NEIGHBOUR: 'it returns false'. Refute it at one input. -/
def foldLessWrong : ChangeSpec := { name := "foldLess", fn := fun _ => fun
  | [d1, d2] => { results := [.lit (.bool false)], args := [d1, d2] }
  | _ => none }
def FoldLessWrongFalsely : Prop := foldLessRow.holds Tryz.pinned (OpenSpec.ofChange foldLessWrong)

/-- 'lychwaykeep.FoldClosed': WHATEVER THE INPUT: true; the input reads as it did. -/
def foldClosedSpec : ChangeSpec := { name := "foldClosed", fn := fun _ => fun
  | [d1, d2] => { results := [.lit (.bool true)], args := [d1, d2] }
  | _ => none }
def foldClosedRow : OpenClaim := { program := "ytehkebncdahmcaagreatdoor", sum := "8fa1fbedc9b88ac8e8f6e94bdd2ecf8b9bbcb72347c3052c151aaa063dce0c0f", func := "lychway/lychwaykeep.FoldClosed", spec := "foldClosed", inPlace := ["internal/bytealg.abigen_runtime_cmpstring"], unfollowed := true, recurses := true, named := ["lychway/expr.notations"], apart := false, laid := [("lychway/expr.notations", laid_lychway_expr_notations)] }
def FoldClosedSaid : Prop := foldClosedRow.holds Tryz.pinned (OpenSpec.ofChange foldClosedSpec)

/-- ITS FALSE NEIGHBOUR: 'it returns false'. Refute it at one input. -/
def foldClosedWrong : ChangeSpec := { name := "foldClosed", fn := fun _ => fun
  | [d1, d2] => { results := [.lit (.bool false)], args := [d1, d2] }
  | _ => none }
def FoldClosedWrongFalsely : Prop := foldClosedRow.holds Tryz.pinned (OpenSpec.ofChange foldClosedWrong)

/- THE SECOND FORM. 'bulk': how many values and letters a reading holds, each counted each time it is reached (what is shared counts as often as it is met; a slice's spare places count too). A statement '..UptoSaid' is the law's where the arguments, and the package variables that the reading takes, are together of bulk at most 1048576: NARROWER than '..Said'. Prove '..Said' where nothing that the law and all that it calls make is longer than what came in: it says more and counts as full. Else prove '..UptoSaid'. A law counts once. -/
mutual
def uptoBulk {H : Type} : DataW H → Nat
  | .lit (.string bytes) => bytes.length + 1
  | .lit _ => 1
  | .nil => 1
  | .ptr d => uptoBulk d + 1
  | .slice elems spare => uptoBulkAll elems + uptoBulkAll spare + 1
  | .agg parts => uptoBulkAll parts + 1
  | .iface _ d => uptoBulk d + 1
  | .map entries => uptoBulkEntries entries + 1
  | .held _ => 1
def uptoBulkAll {H : Type} : List (DataW H) → Nat
  | [] => 0
  | d :: r => uptoBulk d + uptoBulkAll r
def uptoBulkEntries {H : Type} : List (Lit × DataW H) → Nat
  | [] => 0
  | x :: r => uptoBulkEntry x + uptoBulkEntries r
def uptoBulkEntry {H : Type} : Lit × DataW H → Nat
  | (.string bytes, d) => bytes.length + uptoBulk d + 1
  | (_, d) => uptoBulk d + 1
 end
def uptoSmall : (H : Type) → List (DataW H) → Bool := fun _ ds => decide (uptoBulkAll ds ≤ 1048576)
def OpenSpec.upto (s : _root_.Go.ChangeSpec) : _root_.Go.OpenSpec := { _root_.Go.OpenSpec.ofChange s with cond := some uptoSmall }

/-- 'lychwaylaw.FoldTells', WHERE WHAT IT READS IS OF BULK AT MOST 1048576: true; the input reads as it did. -/
def foldTellsUptoRow : OpenClaim := { program := "ytehkebncdahmcaagreatdoor", sum := "8fa1fbedc9b88ac8e8f6e94bdd2ecf8b9bbcb72347c3052c151aaa063dce0c0f", func := "lychway/lychwaylaw.FoldTells", spec := "foldTells", inPlace := ["internal/bytealg.abigen_runtime_cmpstring"], unfollowed := true, recurses := true, named := ["lychway/expr.notations"], loops := true, apart := false, laid := [("lychway/expr.notations", laid_lychway_expr_notations)], narrowed := true }
def FoldTellsUptoSaid : Prop := foldTellsUptoRow.holds Tryz.pinned (OpenSpec.upto foldTellsSpec)

/-- 'lychwaykeep.FoldSame', WHERE WHAT IT READS IS OF BULK AT MOST 1048576: true; the input reads as it did. -/
def foldSameUptoRow : OpenClaim := { program := "ytehkebncdahmcaagreatdoor", sum := "8fa1fbedc9b88ac8e8f6e94bdd2ecf8b9bbcb72347c3052c151aaa063dce0c0f", func := "lychway/lychwaykeep.FoldSame", spec := "foldSame", inPlace := ["internal/bytealg.abigen_runtime_cmpstring"], unfollowed := true, recurses := true, named := ["lychway/expr.notations"], apart := false, laid := [("lychway/expr.notations", laid_lychway_expr_notations)], narrowed := true }
def FoldSameUptoSaid : Prop := foldSameUptoRow.holds Tryz.pinned (OpenSpec.upto foldSameSpec)

/-- 'lychwaykeep.FoldLess', WHERE WHAT IT READS IS OF BULK AT MOST 1048576: true; the input reads as it did. -/
def foldLessUptoRow : OpenClaim := { program := "ytehkebncdahmcaagreatdoor", sum := "8fa1fbedc9b88ac8e8f6e94bdd2ecf8b9bbcb72347c3052c151aaa063dce0c0f", func := "lychway/lychwaykeep.FoldLess", spec := "foldLess", inPlace := ["internal/bytealg.abigen_runtime_cmpstring"], unfollowed := true, recurses := true, named := ["lychway/expr.notations"], apart := false, laid := [("lychway/expr.notations", laid_lychway_expr_notations)], narrowed := true }
def FoldLessUptoSaid : Prop := foldLessUptoRow.holds Tryz.pinned (OpenSpec.upto foldLessSpec)

/-- 'lychwaykeep.FoldClosed', WHERE WHAT IT READS IS OF BULK AT MOST 1048576: true; the input reads as it did. -/
def foldClosedUptoRow : OpenClaim := { program := "ytehkebncdahmcaagreatdoor", sum := "8fa1fbedc9b88ac8e8f6e94bdd2ecf8b9bbcb72347c3052c151aaa063dce0c0f", func := "lychway/lychwaykeep.FoldClosed", spec := "foldClosed", inPlace := ["internal/bytealg.abigen_runtime_cmpstring"], unfollowed := true, recurses := true, named := ["lychway/expr.notations"], apart := false, laid := [("lychway/expr.notations", laid_lychway_expr_notations)], narrowed := true }
def FoldClosedUptoSaid : Prop := foldClosedUptoRow.holds Tryz.pinned (OpenSpec.upto foldClosedSpec)

end Rows
end Go.Proofs.YtehkebncdahmcaaGreatDoor
