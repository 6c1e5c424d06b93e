/-
  NARROWER THAN 'FOR EVERY INPUT', by the rows' own cells (each row's printed sentence says how): WholeFixed: laid · WholeAnswered: laid · WholeTurned: laid · WholeGrows: laid · WholeTold: laid · DeltaSame: laid · DeltaFew: laid · DeltaTold: laid · DeltaBack: laid.
  DERIVED. THE GIVEN ROWS OF THIS SEAT. 9 by the template 'for every input the law returns true; each argument reads behind the call as it read before'; 0 by the template 'total and deterministic' (their statements: YtonlkmkfcaadlaaGreatDoorTotals.lean).
  GIVEN WITH THE SEED: the statements are not yours to turn. If you find one false, say at which input.
  Laid BY PROGRAM, IN A SANDBOX (cutbox-rows.mjs): the forced cells as the released guide's own fill.sh prints them over the translation e1e6fcc98201f4fd… (all of the seat's roots in one cut). By AI agents, Wed Nov 11 2026. No macro, syntax, notation, axiom, sorry.
-/
import Derived.Test.YtonlkmkfcaadlaaGreatDoorChecked
import GoSem.Claim
import GoSem.ClaimJoined
import GoSem.ClaimMapViews
import Derived.JoinedTies
import Derived.KernelRfl
namespace Go.Proofs.YtonlkmkfcaadlaaGreatDoor
/- THE CELL 'sum', in the pinned program and in every row, IS THE sha256 OF THE DUMP (.gsa) THAT YtonlkmkfcaadlaaGreatDoorProg.lean LOADS. Nothing in Lean hashes anything: it is a label: what it is worth is what the hold of that sum in a sandbox is worth. -/
noncomputable def Tryz.pinned : Pinned := { name := "ytonlkmkfcaadlaagreatdoor", sum := "e1e6fcc98201f4fdbc9584e8728c7c22ca0b1d70820146c395ebda0f2a7395bb", checked := Tryz.checked }
namespace Rows
def none {H : Type} : Left H := { results := [], args := [] }

/- WHAT THE LISTED PACKAGE-LEVEL VARIABLES READ AS WHEN THE CALL BEGINS. Each datum BY PROGRAM (the guide's laid-datum.mjs) off the statement by which the dump's own 'gosem.cut.vars' lays the variable. In a bare row this is a premise. The card (YtonlkmkfcaadlaaGreatDoorCards.lean) ties it to the program's text. -/
def laid_lychway_expr_notations {H : Type} : DataW H := .agg [.agg [.lit (.string []), .lit (.int .i64 0), .lit (.int .i64 0)], .agg [.lit (.string []), .lit (.int .i64 6), .lit (.int .i64 0)], .agg [.lit (.string []), .lit (.int .i64 6), .lit (.int .i64 0)], .agg [.lit (.string [45]), .lit (.int .i64 5), .lit (.int .i64 1)], .agg [.lit (.string [110, 111, 116]), .lit (.int .i64 5), .lit (.int .i64 1)], .agg [.lit (.string [42]), .lit (.int .i64 4), .lit (.int .i64 2)], .agg [.lit (.string [47]), .lit (.int .i64 4), .lit (.int .i64 2)], .agg [.lit (.string [37]), .lit (.int .i64 4), .lit (.int .i64 2)], .agg [.lit (.string [43]), .lit (.int .i64 3), .lit (.int .i64 2)], .agg [.lit (.string [45]), .lit (.int .i64 3), .lit (.int .i64 2)], .agg [.lit (.string [38]), .lit (.int .i64 3), .lit (.int .i64 2)], .agg [.lit (.string [60]), .lit (.int .i64 2), .lit (.int .i64 2)], .agg [.lit (.string [60, 61]), .lit (.int .i64 2), .lit (.int .i64 2)], .agg [.lit (.string [61]), .lit (.int .i64 2), .lit (.int .i64 2)], .agg [.lit (.string [33, 61]), .lit (.int .i64 2), .lit (.int .i64 2)], .agg [.lit (.string [97, 110, 100]), .lit (.int .i64 1), .lit (.int .i64 2)], .agg [.lit (.string [111, 114]), .lit (.int .i64 0), .lit (.int .i64 2)], .agg [.lit (.string [105, 102]), .lit (.int .i64 6), .lit (.int .i64 3)], .agg [.lit (.string [108, 101, 110]), .lit (.int .i64 6), .lit (.int .i64 1)]]

/-- 'lychwaykeep.WholeFixed': WHATEVER THE INPUT: true; the input reads as it did. -/
def wholeFixedSpec : ChangeSpec := { name := "wholeFixed", fn := fun _ => fun
  | [d1, d2] => { results := [.lit (.bool true)], args := [d1, d2] }
  | _ => none }
def wholeFixedRow : OpenClaim := { program := "ytonlkmkfcaadlaagreatdoor", sum := "e1e6fcc98201f4fdbc9584e8728c7c22ca0b1d70820146c395ebda0f2a7395bb", func := "lychway/lychwaykeep.WholeFixed", spec := "wholeFixed", inPlace := ["internal/bytealg.abigen_runtime_cmpstring"], unfollowed := true, recurses := true, named := ["lychway/expr.notations"], plainKeys := false, apart := false, laid := [("lychway/expr.notations", laid_lychway_expr_notations)] }
def WholeFixedSaid : Prop := wholeFixedRow.holds Tryz.pinned (OpenSpec.ofChange wholeFixedSpec)

/-- ITS FALSE NEIGHBOUR: 'it returns false'. Refute it at one input. -/
def wholeFixedWrong : ChangeSpec := { name := "wholeFixed", fn := fun _ => fun
  | [d1, d2] => { results := [.lit (.bool false)], args := [d1, d2] }
  | _ => none }
def WholeFixedWrongFalsely : Prop := wholeFixedRow.holds Tryz.pinned (OpenSpec.ofChange wholeFixedWrong)

/-- 'lychwaykeep.WholeAnswered': WHATEVER THE INPUT: true; the input reads as it did. -/
def wholeAnsweredSpec : ChangeSpec := { name := "wholeAnswered", fn := fun _ => fun
  | [d1, d2] => { results := [.lit (.bool true)], args := [d1, d2] }
  | _ => none }
def wholeAnsweredRow : OpenClaim := { program := "ytonlkmkfcaadlaagreatdoor", sum := "e1e6fcc98201f4fdbc9584e8728c7c22ca0b1d70820146c395ebda0f2a7395bb", func := "lychway/lychwaykeep.WholeAnswered", spec := "wholeAnswered", inPlace := ["internal/bytealg.abigen_runtime_cmpstring"], unfollowed := true, recurses := true, named := ["lychway/expr.notations"], plainKeys := false, apart := false, laid := [("lychway/expr.notations", laid_lychway_expr_notations)] }
def WholeAnsweredSaid : Prop := wholeAnsweredRow.holds Tryz.pinned (OpenSpec.ofChange wholeAnsweredSpec)

/-- ITS FALSE NEIGHBOUR: 'it returns false'. Refute it at one input. -/
def wholeAnsweredWrong : ChangeSpec := { name := "wholeAnswered", fn := fun _ => fun
  | [d1, d2] => { results := [.lit (.bool false)], args := [d1, d2] }
  | _ => none }
def WholeAnsweredWrongFalsely : Prop := wholeAnsweredRow.holds Tryz.pinned (OpenSpec.ofChange wholeAnsweredWrong)

/-- 'lychwaykeep.WholeTurned': WHATEVER THE INPUT: true; the input reads as it did. -/
def wholeTurnedSpec : ChangeSpec := { name := "wholeTurned", fn := fun _ => fun
  | [d1, d2, d3] => { results := [.lit (.bool true)], args := [d1, d2, d3] }
  | _ => none }
def wholeTurnedRow : OpenClaim := { program := "ytonlkmkfcaadlaagreatdoor", sum := "e1e6fcc98201f4fdbc9584e8728c7c22ca0b1d70820146c395ebda0f2a7395bb", func := "lychway/lychwaykeep.WholeTurned", spec := "wholeTurned", inPlace := ["internal/bytealg.abigen_runtime_cmpstring"], unfollowed := true, recurses := true, named := ["lychway/expr.notations"], plainKeys := false, apart := false, laid := [("lychway/expr.notations", laid_lychway_expr_notations)] }
def WholeTurnedSaid : Prop := wholeTurnedRow.holds Tryz.pinned (OpenSpec.ofChange wholeTurnedSpec)

/-- ITS FALSE NEIGHBOUR: 'it returns false'. Refute it at one input. -/
def wholeTurnedWrong : ChangeSpec := { name := "wholeTurned", fn := fun _ => fun
  | [d1, d2, d3] => { results := [.lit (.bool false)], args := [d1, d2, d3] }
  | _ => none }
def WholeTurnedWrongFalsely : Prop := wholeTurnedRow.holds Tryz.pinned (OpenSpec.ofChange wholeTurnedWrong)

/-- 'lychwaykeep.WholeGrows': WHATEVER THE INPUT: true; the input reads as it did. -/
def wholeGrowsSpec : ChangeSpec := { name := "wholeGrows", fn := fun _ => fun
  | [d1, d2, d3] => { results := [.lit (.bool true)], args := [d1, d2, d3] }
  | _ => none }
def wholeGrowsRow : OpenClaim := { program := "ytonlkmkfcaadlaagreatdoor", sum := "e1e6fcc98201f4fdbc9584e8728c7c22ca0b1d70820146c395ebda0f2a7395bb", func := "lychway/lychwaykeep.WholeGrows", spec := "wholeGrows", inPlace := ["internal/bytealg.abigen_runtime_cmpstring"], unfollowed := true, recurses := true, named := ["lychway/expr.notations"], plainKeys := false, apart := false, laid := [("lychway/expr.notations", laid_lychway_expr_notations)] }
def WholeGrowsSaid : Prop := wholeGrowsRow.holds Tryz.pinned (OpenSpec.ofChange wholeGrowsSpec)

/-- ITS FALSE NEIGHBOUR: 'it returns false'. Refute it at one input. -/
def wholeGrowsWrong : ChangeSpec := { name := "wholeGrows", fn := fun _ => fun
  | [d1, d2, d3] => { results := [.lit (.bool false)], args := [d1, d2, d3] }
  | _ => none }
def WholeGrowsWrongFalsely : Prop := wholeGrowsRow.holds Tryz.pinned (OpenSpec.ofChange wholeGrowsWrong)

/-- 'lychwaykeep.WholeTold': WHATEVER THE INPUT: true; the input reads as it did. -/
def wholeToldSpec : ChangeSpec := { name := "wholeTold", fn := fun _ => fun
  | [d1, d2] => { results := [.lit (.bool true)], args := [d1, d2] }
  | _ => none }
def wholeToldRow : OpenClaim := { program := "ytonlkmkfcaadlaagreatdoor", sum := "e1e6fcc98201f4fdbc9584e8728c7c22ca0b1d70820146c395ebda0f2a7395bb", func := "lychway/lychwaykeep.WholeTold", spec := "wholeTold", inPlace := ["internal/bytealg.abigen_runtime_cmpstring"], unfollowed := true, recurses := true, named := ["lychway/expr.notations"], plainKeys := false, apart := false, laid := [("lychway/expr.notations", laid_lychway_expr_notations)] }
def WholeToldSaid : Prop := wholeToldRow.holds Tryz.pinned (OpenSpec.ofChange wholeToldSpec)

/-- ITS FALSE NEIGHBOUR: 'it returns false'. Refute it at one input. -/
def wholeToldWrong : ChangeSpec := { name := "wholeTold", fn := fun _ => fun
  | [d1, d2] => { results := [.lit (.bool false)], args := [d1, d2] }
  | _ => none }
def WholeToldWrongFalsely : Prop := wholeToldRow.holds Tryz.pinned (OpenSpec.ofChange wholeToldWrong)

/-- 'lychwaykeep.DeltaSame': WHATEVER THE INPUT: true; the input reads as it did. -/
def deltaSameSpec : ChangeSpec := { name := "deltaSame", fn := fun _ => fun
  | [d1, d2, d3, d4] => { results := [.lit (.bool true)], args := [d1, d2, d3, d4] }
  | _ => none }
def deltaSameRow : OpenClaim := { program := "ytonlkmkfcaadlaagreatdoor", sum := "e1e6fcc98201f4fdbc9584e8728c7c22ca0b1d70820146c395ebda0f2a7395bb", func := "lychway/lychwaykeep.DeltaSame", spec := "deltaSame", inPlace := ["internal/bytealg.abigen_runtime_cmpstring"], unfollowed := true, recurses := true, named := ["lychway/expr.notations"], plainKeys := false, apart := false, laid := [("lychway/expr.notations", laid_lychway_expr_notations)] }
def DeltaSameSaid : Prop := deltaSameRow.holds Tryz.pinned (OpenSpec.ofChange deltaSameSpec)

/-- ITS FALSE NEIGHBOUR: 'it returns false'. Refute it at one input. -/
def deltaSameWrong : ChangeSpec := { name := "deltaSame", fn := fun _ => fun
  | [d1, d2, d3, d4] => { results := [.lit (.bool false)], args := [d1, d2, d3, d4] }
  | _ => none }
def DeltaSameWrongFalsely : Prop := deltaSameRow.holds Tryz.pinned (OpenSpec.ofChange deltaSameWrong)

/-- 'lychwaykeep.DeltaFew': WHATEVER THE INPUT: true; the input reads as it did. -/
def deltaFewSpec : ChangeSpec := { name := "deltaFew", fn := fun _ => fun
  | [d1, d2, d3, d4] => { results := [.lit (.bool true)], args := [d1, d2, d3, d4] }
  | _ => none }
def deltaFewRow : OpenClaim := { program := "ytonlkmkfcaadlaagreatdoor", sum := "e1e6fcc98201f4fdbc9584e8728c7c22ca0b1d70820146c395ebda0f2a7395bb", func := "lychway/lychwaykeep.DeltaFew", spec := "deltaFew", inPlace := ["internal/bytealg.abigen_runtime_cmpstring"], unfollowed := true, recurses := true, named := ["lychway/expr.notations"], plainKeys := false, apart := false, laid := [("lychway/expr.notations", laid_lychway_expr_notations)] }
def DeltaFewSaid : Prop := deltaFewRow.holds Tryz.pinned (OpenSpec.ofChange deltaFewSpec)

/-- ITS FALSE NEIGHBOUR: 'it returns false'. Refute it at one input. -/
def deltaFewWrong : ChangeSpec := { name := "deltaFew", fn := fun _ => fun
  | [d1, d2, d3, d4] => { results := [.lit (.bool false)], args := [d1, d2, d3, d4] }
  | _ => none }
def DeltaFewWrongFalsely : Prop := deltaFewRow.holds Tryz.pinned (OpenSpec.ofChange deltaFewWrong)

/-- 'lychwaykeep.DeltaTold': WHATEVER THE INPUT: true; the input reads as it did. -/
def deltaToldSpec : ChangeSpec := { name := "deltaTold", fn := fun _ => fun
  | [d1, d2, d3] => { results := [.lit (.bool true)], args := [d1, d2, d3] }
  | _ => none }
def deltaToldRow : OpenClaim := { program := "ytonlkmkfcaadlaagreatdoor", sum := "e1e6fcc98201f4fdbc9584e8728c7c22ca0b1d70820146c395ebda0f2a7395bb", func := "lychway/lychwaykeep.DeltaTold", spec := "deltaTold", inPlace := ["internal/bytealg.abigen_runtime_cmpstring"], unfollowed := true, recurses := true, named := ["lychway/expr.notations"], plainKeys := false, apart := false, laid := [("lychway/expr.notations", laid_lychway_expr_notations)] }
def DeltaToldSaid : Prop := deltaToldRow.holds Tryz.pinned (OpenSpec.ofChange deltaToldSpec)

/-- ITS FALSE NEIGHBOUR: 'it returns false'. Refute it at one input. -/
def deltaToldWrong : ChangeSpec := { name := "deltaTold", fn := fun _ => fun
  | [d1, d2, d3] => { results := [.lit (.bool false)], args := [d1, d2, d3] }
  | _ => none }
def DeltaToldWrongFalsely : Prop := deltaToldRow.holds Tryz.pinned (OpenSpec.ofChange deltaToldWrong)

/-- 'lychwaykeep.DeltaBack': WHATEVER THE INPUT: true; the input reads as it did. -/
def deltaBackSpec : ChangeSpec := { name := "deltaBack", fn := fun _ => fun
  | [d1, d2, d3, d4] => { results := [.lit (.bool true)], args := [d1, d2, d3, d4] }
  | _ => none }
def deltaBackRow : OpenClaim := { program := "ytonlkmkfcaadlaagreatdoor", sum := "e1e6fcc98201f4fdbc9584e8728c7c22ca0b1d70820146c395ebda0f2a7395bb", func := "lychway/lychwaykeep.DeltaBack", spec := "deltaBack", inPlace := ["internal/bytealg.abigen_runtime_cmpstring"], unfollowed := true, recurses := true, named := ["lychway/expr.notations"], plainKeys := false, apart := false, laid := [("lychway/expr.notations", laid_lychway_expr_notations)] }
def DeltaBackSaid : Prop := deltaBackRow.holds Tryz.pinned (OpenSpec.ofChange deltaBackSpec)

/-- ITS FALSE NEIGHBOUR: 'it returns false'. Refute it at one input. -/
def deltaBackWrong : ChangeSpec := { name := "deltaBack", fn := fun _ => fun
  | [d1, d2, d3, d4] => { results := [.lit (.bool false)], args := [d1, d2, d3, d4] }
  | _ => none }
def DeltaBackWrongFalsely : Prop := deltaBackRow.holds Tryz.pinned (OpenSpec.ofChange deltaBackWrong)

/- THE SECOND FORM. 'bulk': how many values and letters a reading holds, each counted each time it is reached (what is shared counts as often as it is met; a slice's spare places count too). A statement '..UptoSaid' is the law's where the arguments, and the package variables that the reading takes, are together of bulk at most 1048576: NARROWER than '..Said'. Prove '..Said' where nothing that the law and all that it calls make is longer than what came in: it says more and counts as full. Else prove '..UptoSaid'. A law counts once. -/
mutual
def uptoBulk {H : Type} : DataW H → Nat
  | .lit (.string bytes) => bytes.length + 1
  | .lit _ => 1
  | .nil => 1
  | .ptr d => uptoBulk d + 1
  | .slice elems spare => uptoBulkAll elems + uptoBulkAll spare + 1
  | .agg parts => uptoBulkAll parts + 1
  | .iface _ d => uptoBulk d + 1
  | .map entries => uptoBulkEntries entries + 1
  | .held _ => 1
def uptoBulkAll {H : Type} : List (DataW H) → Nat
  | [] => 0
  | d :: r => uptoBulk d + uptoBulkAll r
def uptoBulkEntries {H : Type} : List (Lit × DataW H) → Nat
  | [] => 0
  | x :: r => uptoBulkEntry x + uptoBulkEntries r
def uptoBulkEntry {H : Type} : Lit × DataW H → Nat
  | (.string bytes, d) => bytes.length + uptoBulk d + 1
  | (_, d) => uptoBulk d + 1
 end
def uptoSmall : (H : Type) → List (DataW H) → Bool := fun _ ds => decide (uptoBulkAll ds ≤ 1048576)
def OpenSpec.upto (s : _root_.Go.ChangeSpec) : _root_.Go.OpenSpec := { _root_.Go.OpenSpec.ofChange s with cond := some uptoSmall }

/-- 'lychwaykeep.WholeFixed', WHERE WHAT IT READS IS OF BULK AT MOST 1048576: true; the input reads as it did. -/
def wholeFixedUptoRow : OpenClaim := { program := "ytonlkmkfcaadlaagreatdoor", sum := "e1e6fcc98201f4fdbc9584e8728c7c22ca0b1d70820146c395ebda0f2a7395bb", func := "lychway/lychwaykeep.WholeFixed", spec := "wholeFixed", inPlace := ["internal/bytealg.abigen_runtime_cmpstring"], unfollowed := true, recurses := true, named := ["lychway/expr.notations"], plainKeys := false, apart := false, laid := [("lychway/expr.notations", laid_lychway_expr_notations)], narrowed := true }
def WholeFixedUptoSaid : Prop := wholeFixedUptoRow.holds Tryz.pinned (OpenSpec.upto wholeFixedSpec)

/-- 'lychwaykeep.WholeAnswered', WHERE WHAT IT READS IS OF BULK AT MOST 1048576: true; the input reads as it did. -/
def wholeAnsweredUptoRow : OpenClaim := { program := "ytonlkmkfcaadlaagreatdoor", sum := "e1e6fcc98201f4fdbc9584e8728c7c22ca0b1d70820146c395ebda0f2a7395bb", func := "lychway/lychwaykeep.WholeAnswered", spec := "wholeAnswered", inPlace := ["internal/bytealg.abigen_runtime_cmpstring"], unfollowed := true, recurses := true, named := ["lychway/expr.notations"], plainKeys := false, apart := false, laid := [("lychway/expr.notations", laid_lychway_expr_notations)], narrowed := true }
def WholeAnsweredUptoSaid : Prop := wholeAnsweredUptoRow.holds Tryz.pinned (OpenSpec.upto wholeAnsweredSpec)

/-- 'lychwaykeep.WholeTurned', WHERE WHAT IT READS IS OF BULK AT MOST 1048576: true; the input reads as it did. -/
def wholeTurnedUptoRow : OpenClaim := { program := "ytonlkmkfcaadlaagreatdoor", sum := "e1e6fcc98201f4fdbc9584e8728c7c22ca0b1d70820146c395ebda0f2a7395bb", func := "lychway/lychwaykeep.WholeTurned", spec := "wholeTurned", inPlace := ["internal/bytealg.abigen_runtime_cmpstring"], unfollowed := true, recurses := true, named := ["lychway/expr.notations"], plainKeys := false, apart := false, laid := [("lychway/expr.notations", laid_lychway_expr_notations)], narrowed := true }
def WholeTurnedUptoSaid : Prop := wholeTurnedUptoRow.holds Tryz.pinned (OpenSpec.upto wholeTurnedSpec)

/-- 'lychwaykeep.WholeGrows', WHERE WHAT IT READS IS OF BULK AT MOST 1048576: true; the input reads as it did. -/
def wholeGrowsUptoRow : OpenClaim := { program := "ytonlkmkfcaadlaagreatdoor", sum := "e1e6fcc98201f4fdbc9584e8728c7c22ca0b1d70820146c395ebda0f2a7395bb", func := "lychway/lychwaykeep.WholeGrows", spec := "wholeGrows", inPlace := ["internal/bytealg.abigen_runtime_cmpstring"], unfollowed := true, recurses := true, named := ["lychway/expr.notations"], plainKeys := false, apart := false, laid := [("lychway/expr.notations", laid_lychway_expr_notations)], narrowed := true }
def WholeGrowsUptoSaid : Prop := wholeGrowsUptoRow.holds Tryz.pinned (OpenSpec.upto wholeGrowsSpec)

/-- 'lychwaykeep.WholeTold', WHERE WHAT IT READS IS OF BULK AT MOST 1048576: true; the input reads as it did. -/
def wholeToldUptoRow : OpenClaim := { program := "ytonlkmkfcaadlaagreatdoor", sum := "e1e6fcc98201f4fdbc9584e8728c7c22ca0b1d70820146c395ebda0f2a7395bb", func := "lychway/lychwaykeep.WholeTold", spec := "wholeTold", inPlace := ["internal/bytealg.abigen_runtime_cmpstring"], unfollowed := true, recurses := true, named := ["lychway/expr.notations"], plainKeys := false, apart := false, laid := [("lychway/expr.notations", laid_lychway_expr_notations)], narrowed := true }
def WholeToldUptoSaid : Prop := wholeToldUptoRow.holds Tryz.pinned (OpenSpec.upto wholeToldSpec)

/-- 'lychwaykeep.DeltaSame', WHERE WHAT IT READS IS OF BULK AT MOST 1048576: true; the input reads as it did. -/
def deltaSameUptoRow : OpenClaim := { program := "ytonlkmkfcaadlaagreatdoor", sum := "e1e6fcc98201f4fdbc9584e8728c7c22ca0b1d70820146c395ebda0f2a7395bb", func := "lychway/lychwaykeep.DeltaSame", spec := "deltaSame", inPlace := ["internal/bytealg.abigen_runtime_cmpstring"], unfollowed := true, recurses := true, named := ["lychway/expr.notations"], plainKeys := false, apart := false, laid := [("lychway/expr.notations", laid_lychway_expr_notations)], narrowed := true }
def DeltaSameUptoSaid : Prop := deltaSameUptoRow.holds Tryz.pinned (OpenSpec.upto deltaSameSpec)

/-- 'lychwaykeep.DeltaFew', WHERE WHAT IT READS IS OF BULK AT MOST 1048576: true; the input reads as it did. -/
def deltaFewUptoRow : OpenClaim := { program := "ytonlkmkfcaadlaagreatdoor", sum := "e1e6fcc98201f4fdbc9584e8728c7c22ca0b1d70820146c395ebda0f2a7395bb", func := "lychway/lychwaykeep.DeltaFew", spec := "deltaFew", inPlace := ["internal/bytealg.abigen_runtime_cmpstring"], unfollowed := true, recurses := true, named := ["lychway/expr.notations"], plainKeys := false, apart := false, laid := [("lychway/expr.notations", laid_lychway_expr_notations)], narrowed := true }
def DeltaFewUptoSaid : Prop := deltaFewUptoRow.holds Tryz.pinned (OpenSpec.upto deltaFewSpec)

/-- 'lychwaykeep.DeltaTold', WHERE WHAT IT READS IS OF BULK AT MOST 1048576: true; the input reads as it did. -/
def deltaToldUptoRow : OpenClaim := { program := "ytonlkmkfcaadlaagreatdoor", sum := "e1e6fcc98201f4fdbc9584e8728c7c22ca0b1d70820146c395ebda0f2a7395bb", func := "lychway/lychwaykeep.DeltaTold", spec := "deltaTold", inPlace := ["internal/bytealg.abigen_runtime_cmpstring"], unfollowed := true, recurses := true, named := ["lychway/expr.notations"], plainKeys := false, apart := false, laid := [("lychway/expr.notations", laid_lychway_expr_notations)], narrowed := true }
def DeltaToldUptoSaid : Prop := deltaToldUptoRow.holds Tryz.pinned (OpenSpec.upto deltaToldSpec)

/-- 'lychwaykeep.DeltaBack', WHERE WHAT IT READS IS OF BULK AT MOST 1048576: true; the input reads as it did. -/
def deltaBackUptoRow : OpenClaim := { program := "ytonlkmkfcaadlaagreatdoor", sum := "e1e6fcc98201f4fdbc9584e8728c7c22ca0b1d70820146c395ebda0f2a7395bb", func := "lychway/lychwaykeep.DeltaBack", spec := "deltaBack", inPlace := ["internal/bytealg.abigen_runtime_cmpstring"], unfollowed := true, recurses := true, named := ["lychway/expr.notations"], plainKeys := false, apart := false, laid := [("lychway/expr.notations", laid_lychway_expr_notations)], narrowed := true }
def DeltaBackUptoSaid : Prop := deltaBackUptoRow.holds Tryz.pinned (OpenSpec.upto deltaBackSpec)

end Rows
end Go.Proofs.YtonlkmkfcaadlaaGreatDoor
