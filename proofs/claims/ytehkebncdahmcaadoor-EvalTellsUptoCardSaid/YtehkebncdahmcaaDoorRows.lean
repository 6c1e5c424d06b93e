/-
  NARROWER THAN 'FOR EVERY INPUT', by the rows' own cells (each row's printed sentence says how): EvalTells: loops, laid · EvalPut: laid.
  DERIVED. THE GIVEN ROWS OF THIS SEAT. 2 by the template 'for every input the law returns true; each argument reads behind the call as it read before'; 0 by the template 'total and deterministic' (their statements: YtehkebncdahmcaaDoorTotals.lean).
  GIVEN WITH THE SEED: the statements are not yours to turn. If you find one false, say at which input.
  Laid BY PROGRAM, IN A SANDBOX (cutbox-rows.mjs): the forced cells as the released guide's own fill.sh prints them over the translation d267a175f817ac8a… (all of the seat's roots in one cut). By AI agents, Wed Nov 11 2026. No macro, syntax, notation, axiom, sorry.
-/
import Derived.Test.YtehkebncdahmcaaDoorChecked
import GoSem.Claim
import GoSem.ClaimJoined
import GoSem.ClaimMapViews
import Derived.JoinedTies
import Derived.KernelRfl
namespace Go.Proofs.YtehkebncdahmcaaDoor
/- THE CELL 'sum', in the pinned program and in every row, IS THE sha256 OF THE DUMP (.gsa) THAT YtehkebncdahmcaaDoorProg.lean LOADS. Nothing in Lean hashes anything: it is a label: what it is worth is what the hold of that sum in a sandbox is worth. -/
noncomputable def Tryd.pinned : Pinned := { name := "ytehkebncdahmcaadoor", sum := "d267a175f817ac8a2c656dd42c4916dd61b28cb949284f7d8403993c98c9aa94", checked := Tryd.checked }
namespace Rows
def none {H : Type} : Left H := { results := [], args := [] }

/- WHAT THE LISTED PACKAGE-LEVEL VARIABLES READ AS WHEN THE CALL BEGINS. Each datum BY PROGRAM (the guide's laid-datum.mjs) off the statement by which the dump's own 'gosem.cut.vars' lays the variable. In a bare row this is a premise. The card (YtehkebncdahmcaaDoorCards.lean) ties it to the program's text. -/
def laid_lychway_expr_notations {H : Type} : DataW H := .agg [.agg [.lit (.string []), .lit (.int .i64 0), .lit (.int .i64 0)], .agg [.lit (.string []), .lit (.int .i64 6), .lit (.int .i64 0)], .agg [.lit (.string []), .lit (.int .i64 6), .lit (.int .i64 0)], .agg [.lit (.string [45]), .lit (.int .i64 5), .lit (.int .i64 1)], .agg [.lit (.string [110, 111, 116]), .lit (.int .i64 5), .lit (.int .i64 1)], .agg [.lit (.string [42]), .lit (.int .i64 4), .lit (.int .i64 2)], .agg [.lit (.string [47]), .lit (.int .i64 4), .lit (.int .i64 2)], .agg [.lit (.string [37]), .lit (.int .i64 4), .lit (.int .i64 2)], .agg [.lit (.string [43]), .lit (.int .i64 3), .lit (.int .i64 2)], .agg [.lit (.string [45]), .lit (.int .i64 3), .lit (.int .i64 2)], .agg [.lit (.string [38]), .lit (.int .i64 3), .lit (.int .i64 2)], .agg [.lit (.string [60]), .lit (.int .i64 2), .lit (.int .i64 2)], .agg [.lit (.string [60, 61]), .lit (.int .i64 2), .lit (.int .i64 2)], .agg [.lit (.string [61]), .lit (.int .i64 2), .lit (.int .i64 2)], .agg [.lit (.string [33, 61]), .lit (.int .i64 2), .lit (.int .i64 2)], .agg [.lit (.string [97, 110, 100]), .lit (.int .i64 1), .lit (.int .i64 2)], .agg [.lit (.string [111, 114]), .lit (.int .i64 0), .lit (.int .i64 2)], .agg [.lit (.string [105, 102]), .lit (.int .i64 6), .lit (.int .i64 3)], .agg [.lit (.string [108, 101, 110]), .lit (.int .i64 6), .lit (.int .i64 1)]]

/-- 'lychwaylaw.EvalTells': WHATEVER THE INPUT: true; the input reads as it did. -/
def evalTellsSpec : ChangeSpec := { name := "evalTells", fn := fun _ => fun
  | [d1, d2] => { results := [.lit (.bool true)], args := [d1, d2] }
  | _ => none }
def evalTellsRow : OpenClaim := { program := "ytehkebncdahmcaadoor", sum := "d267a175f817ac8a2c656dd42c4916dd61b28cb949284f7d8403993c98c9aa94", func := "lychway/lychwaylaw.EvalTells", spec := "evalTells", inPlace := ["internal/bytealg.abigen_runtime_cmpstring"], unfollowed := true, recurses := true, named := ["lychway/expr.notations"], loops := true, apart := false, laid := [("lychway/expr.notations", laid_lychway_expr_notations)] }
def EvalTellsSaid : Prop := evalTellsRow.holds Tryd.pinned (OpenSpec.ofChange evalTellsSpec)

/-- ITS FALSE NEIGHBOUR: 'it returns false'. Refute it at one input. -/
def evalTellsWrong : ChangeSpec := { name := "evalTells", fn := fun _ => fun
  | [d1, d2] => { results := [.lit (.bool false)], args := [d1, d2] }
  | _ => none }
def EvalTellsWrongFalsely : Prop := evalTellsRow.holds Tryd.pinned (OpenSpec.ofChange evalTellsWrong)

/-- 'lychwaykeep.EvalPut': WHATEVER THE INPUT: true; the input reads as it did. -/
def evalPutSpec : ChangeSpec := { name := "evalPut", fn := fun _ => fun
  | [d1, d2, d3, d4] => { results := [.lit (.bool true)], args := [d1, d2, d3, d4] }
  | _ => none }
def evalPutRow : OpenClaim := { program := "ytehkebncdahmcaadoor", sum := "d267a175f817ac8a2c656dd42c4916dd61b28cb949284f7d8403993c98c9aa94", func := "lychway/lychwaykeep.EvalPut", spec := "evalPut", inPlace := ["internal/bytealg.abigen_runtime_cmpstring"], unfollowed := true, recurses := true, named := ["lychway/expr.notations"], apart := false, laid := [("lychway/expr.notations", laid_lychway_expr_notations)] }
def EvalPutSaid : Prop := evalPutRow.holds Tryd.pinned (OpenSpec.ofChange evalPutSpec)

/-- ITS FALSE NEIGHBOUR: 'it returns false'. Refute it at one input. -/
def evalPutWrong : ChangeSpec := { name := "evalPut", fn := fun _ => fun
  | [d1, d2, d3, d4] => { results := [.lit (.bool false)], args := [d1, d2, d3, d4] }
  | _ => none }
def EvalPutWrongFalsely : Prop := evalPutRow.holds Tryd.pinned (OpenSpec.ofChange evalPutWrong)

/- THE SECOND FORM. 'bulk': how many values and letters a reading holds, each counted each time it is reached (what is shared counts as often as it is met; a slice's spare places count too). A statement '..UptoSaid' is the law's where the arguments, and the package variables that the reading takes, are together of bulk at most 1048576: NARROWER than '..Said'. Prove '..Said' where nothing that the law and all that it calls make is longer than what came in: it says more and counts as full. Else prove '..UptoSaid'. A law counts once. -/
mutual
def uptoBulk {H : Type} : DataW H → Nat
  | .lit (.string bytes) => bytes.length + 1
  | .lit _ => 1
  | .nil => 1
  | .ptr d => uptoBulk d + 1
  | .slice elems spare => uptoBulkAll elems + uptoBulkAll spare + 1
  | .agg parts => uptoBulkAll parts + 1
  | .iface _ d => uptoBulk d + 1
  | .map entries => uptoBulkEntries entries + 1
  | .held _ => 1
def uptoBulkAll {H : Type} : List (DataW H) → Nat
  | [] => 0
  | d :: r => uptoBulk d + uptoBulkAll r
def uptoBulkEntries {H : Type} : List (Lit × DataW H) → Nat
  | [] => 0
  | x :: r => uptoBulkEntry x + uptoBulkEntries r
def uptoBulkEntry {H : Type} : Lit × DataW H → Nat
  | (.string bytes, d) => bytes.length + uptoBulk d + 1
  | (_, d) => uptoBulk d + 1
 end
def uptoSmall : (H : Type) → List (DataW H) → Bool := fun _ ds => decide (uptoBulkAll ds ≤ 1048576)
def OpenSpec.upto (s : _root_.Go.ChangeSpec) : _root_.Go.OpenSpec := { _root_.Go.OpenSpec.ofChange s with cond := some uptoSmall }

/-- 'lychwaylaw.EvalTells', WHERE WHAT IT READS IS OF BULK AT MOST 1048576: true; the input reads as it did. -/
def evalTellsUptoRow : OpenClaim := { program := "ytehkebncdahmcaadoor", sum := "d267a175f817ac8a2c656dd42c4916dd61b28cb949284f7d8403993c98c9aa94", func := "lychway/lychwaylaw.EvalTells", spec := "evalTells", inPlace := ["internal/bytealg.abigen_runtime_cmpstring"], unfollowed := true, recurses := true, named := ["lychway/expr.notations"], loops := true, apart := false, laid := [("lychway/expr.notations", laid_lychway_expr_notations)], narrowed := true }
def EvalTellsUptoSaid : Prop := evalTellsUptoRow.holds Tryd.pinned (OpenSpec.upto evalTellsSpec)

/-- 'lychwaykeep.EvalPut', WHERE WHAT IT READS IS OF BULK AT MOST 1048576: true; the input reads as it did. -/
def evalPutUptoRow : OpenClaim := { program := "ytehkebncdahmcaadoor", sum := "d267a175f817ac8a2c656dd42c4916dd61b28cb949284f7d8403993c98c9aa94", func := "lychway/lychwaykeep.EvalPut", spec := "evalPut", inPlace := ["internal/bytealg.abigen_runtime_cmpstring"], unfollowed := true, recurses := true, named := ["lychway/expr.notations"], apart := false, laid := [("lychway/expr.notations", laid_lychway_expr_notations)], narrowed := true }
def EvalPutUptoSaid : Prop := evalPutUptoRow.holds Tryd.pinned (OpenSpec.upto evalPutSpec)

end Rows
end Go.Proofs.YtehkebncdahmcaaDoor
