/-
  NARROWER THAN 'FOR EVERY INPUT', by the rows' own cells (each row's printed sentence says how): NamesTells: loops, laid · NamesPuts: loops, laid · NamesPut: laid · NamesAll: laid.
  DERIVED. THE GIVEN ROWS OF THIS SEAT. 4 by the template 'for every input the law returns true; each argument reads behind the call as it read before'; 0 by the template 'total and deterministic' (their statements: YtlceojdnmoekcaaDoorTotals.lean).
  GIVEN WITH THE SEED: the statements are not yours to turn. If you find one false, say at which input.
  Laid BY PROGRAM, IN A SANDBOX (cutbox-rows.mjs): the forced cells as the released guide's own fill.sh prints them over the translation 528a9008ee770e0c… (all of the seat's roots in one cut). By AI agents, Wed Nov 11 2026. No macro, syntax, notation, axiom, sorry.
-/
import Derived.Test.YtlceojdnmoekcaaDoorChecked
import GoSem.Claim
import GoSem.ClaimJoined
import GoSem.ClaimMapViews
import Derived.JoinedTies
import Derived.KernelRfl
namespace Go.Proofs.YtlceojdnmoekcaaDoor
/- THE CELL 'sum', in the pinned program and in every row, IS THE sha256 OF THE DUMP (.gsa) THAT YtlceojdnmoekcaaDoorProg.lean LOADS. Nothing in Lean hashes anything: it is a label: what it is worth is what the hold of that sum in a sandbox is worth. -/
noncomputable def Tryd.pinned : Pinned := { name := "ytlceojdnmoekcaadoor", sum := "528a9008ee770e0c1923a24d663950444c88220a8d994eefe8d977dc6dc45bc3", checked := Tryd.checked }
namespace Rows
def none {H : Type} : Left H := { results := [], args := [] }

/- WHAT THE LISTED PACKAGE-LEVEL VARIABLES READ AS WHEN THE CALL BEGINS. Each datum BY PROGRAM (the guide's laid-datum.mjs) off the statement by which the dump's own 'gosem.cut.vars' lays the variable. In a bare row this is a premise. The card (YtlceojdnmoekcaaDoorCards.lean) ties it to the program's text. -/
def laid_lychway_expr_notations {H : Type} : DataW H := .agg [.agg [.lit (.string []), .lit (.int .i64 0), .lit (.int .i64 0)], .agg [.lit (.string []), .lit (.int .i64 6), .lit (.int .i64 0)], .agg [.lit (.string []), .lit (.int .i64 6), .lit (.int .i64 0)], .agg [.lit (.string [45]), .lit (.int .i64 5), .lit (.int .i64 1)], .agg [.lit (.string [110, 111, 116]), .lit (.int .i64 5), .lit (.int .i64 1)], .agg [.lit (.string [42]), .lit (.int .i64 4), .lit (.int .i64 2)], .agg [.lit (.string [47]), .lit (.int .i64 4), .lit (.int .i64 2)], .agg [.lit (.string [37]), .lit (.int .i64 4), .lit (.int .i64 2)], .agg [.lit (.string [43]), .lit (.int .i64 3), .lit (.int .i64 2)], .agg [.lit (.string [45]), .lit (.int .i64 3), .lit (.int .i64 2)], .agg [.lit (.string [38]), .lit (.int .i64 3), .lit (.int .i64 2)], .agg [.lit (.string [60]), .lit (.int .i64 2), .lit (.int .i64 2)], .agg [.lit (.string [60, 61]), .lit (.int .i64 2), .lit (.int .i64 2)], .agg [.lit (.string [61]), .lit (.int .i64 2), .lit (.int .i64 2)], .agg [.lit (.string [33, 61]), .lit (.int .i64 2), .lit (.int .i64 2)], .agg [.lit (.string [97, 110, 100]), .lit (.int .i64 1), .lit (.int .i64 2)], .agg [.lit (.string [111, 114]), .lit (.int .i64 0), .lit (.int .i64 2)], .agg [.lit (.string [105, 102]), .lit (.int .i64 6), .lit (.int .i64 3)], .agg [.lit (.string [108, 101, 110]), .lit (.int .i64 6), .lit (.int .i64 1)]]

/-- 'lychwaylaw.NamesTells': WHATEVER THE INPUT: true; the input reads as it did. -/
def namesTellsSpec : ChangeSpec := { name := "namesTells", fn := fun _ => fun
  | [d1, d2] => { results := [.lit (.bool true)], args := [d1, d2] }
  | _ => none }
def namesTellsRow : OpenClaim := { program := "ytlceojdnmoekcaadoor", sum := "528a9008ee770e0c1923a24d663950444c88220a8d994eefe8d977dc6dc45bc3", func := "lychway/lychwaylaw.NamesTells", spec := "namesTells", unfollowed := true, recurses := true, named := ["lychway/expr.notations"], loops := true, apart := false, laid := [("lychway/expr.notations", laid_lychway_expr_notations)] }
def NamesTellsSaid : Prop := namesTellsRow.holds Tryd.pinned (OpenSpec.ofChange namesTellsSpec)

/-- ITS FALSE NEIGHBOUR: 'it returns false'. Refute it at one input. -/
def namesTellsWrong : ChangeSpec := { name := "namesTells", fn := fun _ => fun
  | [d1, d2] => { results := [.lit (.bool false)], args := [d1, d2] }
  | _ => none }
def NamesTellsWrongFalsely : Prop := namesTellsRow.holds Tryd.pinned (OpenSpec.ofChange namesTellsWrong)

/-- 'lychwaylaw.NamesPuts': WHATEVER THE INPUT: true; the input reads as it did. -/
def namesPutsSpec : ChangeSpec := { name := "namesPuts", fn := fun _ => fun
  | [d1, d2, d3] => { results := [.lit (.bool true)], args := [d1, d2, d3] }
  | _ => none }
def namesPutsRow : OpenClaim := { program := "ytlceojdnmoekcaadoor", sum := "528a9008ee770e0c1923a24d663950444c88220a8d994eefe8d977dc6dc45bc3", func := "lychway/lychwaylaw.NamesPuts", spec := "namesPuts", unfollowed := true, recurses := true, named := ["lychway/expr.notations"], loops := true, apart := false, laid := [("lychway/expr.notations", laid_lychway_expr_notations)] }
def NamesPutsSaid : Prop := namesPutsRow.holds Tryd.pinned (OpenSpec.ofChange namesPutsSpec)

/-- ITS FALSE NEIGHBOUR: 'it returns false'. Refute it at one input. -/
def namesPutsWrong : ChangeSpec := { name := "namesPuts", fn := fun _ => fun
  | [d1, d2, d3] => { results := [.lit (.bool false)], args := [d1, d2, d3] }
  | _ => none }
def NamesPutsWrongFalsely : Prop := namesPutsRow.holds Tryd.pinned (OpenSpec.ofChange namesPutsWrong)

/-- 'lychwaykeep.NamesPut': WHATEVER THE INPUT: true; the input reads as it did. -/
def namesPutSpec : ChangeSpec := { name := "namesPut", fn := fun _ => fun
  | [d1, d2, d3] => { results := [.lit (.bool true)], args := [d1, d2, d3] }
  | _ => none }
def namesPutRow : OpenClaim := { program := "ytlceojdnmoekcaadoor", sum := "528a9008ee770e0c1923a24d663950444c88220a8d994eefe8d977dc6dc45bc3", func := "lychway/lychwaykeep.NamesPut", spec := "namesPut", unfollowed := true, recurses := true, named := ["lychway/expr.notations"], apart := false, laid := [("lychway/expr.notations", laid_lychway_expr_notations)] }
def NamesPutSaid : Prop := namesPutRow.holds Tryd.pinned (OpenSpec.ofChange namesPutSpec)

/-- ITS FALSE NEIGHBOUR: 'it returns false'. Refute it at one input. -/
def namesPutWrong : ChangeSpec := { name := "namesPut", fn := fun _ => fun
  | [d1, d2, d3] => { results := [.lit (.bool false)], args := [d1, d2, d3] }
  | _ => none }
def NamesPutWrongFalsely : Prop := namesPutRow.holds Tryd.pinned (OpenSpec.ofChange namesPutWrong)

/-- 'lychwaykeep.NamesAll': WHATEVER THE INPUT: true; the input reads as it did. -/
def namesAllSpec : ChangeSpec := { name := "namesAll", fn := fun _ => fun
  | [d1, d2] => { results := [.lit (.bool true)], args := [d1, d2] }
  | _ => none }
def namesAllRow : OpenClaim := { program := "ytlceojdnmoekcaadoor", sum := "528a9008ee770e0c1923a24d663950444c88220a8d994eefe8d977dc6dc45bc3", func := "lychway/lychwaykeep.NamesAll", spec := "namesAll", unfollowed := true, recurses := true, named := ["lychway/expr.notations"], apart := false, laid := [("lychway/expr.notations", laid_lychway_expr_notations)] }
def NamesAllSaid : Prop := namesAllRow.holds Tryd.pinned (OpenSpec.ofChange namesAllSpec)

/-- ITS FALSE NEIGHBOUR: 'it returns false'. Refute it at one input. -/
def namesAllWrong : ChangeSpec := { name := "namesAll", fn := fun _ => fun
  | [d1, d2] => { results := [.lit (.bool false)], args := [d1, d2] }
  | _ => none }
def NamesAllWrongFalsely : Prop := namesAllRow.holds Tryd.pinned (OpenSpec.ofChange namesAllWrong)

/- THE SECOND FORM. 'bulk': how many values and letters a reading holds, each counted each time it is reached (what is shared counts as often as it is met; a slice's spare places count too). A statement '..UptoSaid' is the law's where the arguments, and the package variables that the reading takes, are together of bulk at most 1048576: NARROWER than '..Said'. Prove '..Said' where nothing that the law and all that it calls make is longer than what came in: it says more and counts as full. Else prove '..UptoSaid'. A law counts once. -/
mutual
def uptoBulk {H : Type} : DataW H → Nat
  | .lit (.string bytes) => bytes.length + 1
  | .lit _ => 1
  | .nil => 1
  | .ptr d => uptoBulk d + 1
  | .slice elems spare => uptoBulkAll elems + uptoBulkAll spare + 1
  | .agg parts => uptoBulkAll parts + 1
  | .iface _ d => uptoBulk d + 1
  | .map entries => uptoBulkEntries entries + 1
  | .held _ => 1
def uptoBulkAll {H : Type} : List (DataW H) → Nat
  | [] => 0
  | d :: r => uptoBulk d + uptoBulkAll r
def uptoBulkEntries {H : Type} : List (Lit × DataW H) → Nat
  | [] => 0
  | x :: r => uptoBulkEntry x + uptoBulkEntries r
def uptoBulkEntry {H : Type} : Lit × DataW H → Nat
  | (.string bytes, d) => bytes.length + uptoBulk d + 1
  | (_, d) => uptoBulk d + 1
 end
def uptoSmall : (H : Type) → List (DataW H) → Bool := fun _ ds => decide (uptoBulkAll ds ≤ 1048576)
def OpenSpec.upto (s : _root_.Go.ChangeSpec) : _root_.Go.OpenSpec := { _root_.Go.OpenSpec.ofChange s with cond := some uptoSmall }

/-- 'lychwaylaw.NamesTells', WHERE WHAT IT READS IS OF BULK AT MOST 1048576: true; the input reads as it did. -/
def namesTellsUptoRow : OpenClaim := { program := "ytlceojdnmoekcaadoor", sum := "528a9008ee770e0c1923a24d663950444c88220a8d994eefe8d977dc6dc45bc3", func := "lychway/lychwaylaw.NamesTells", spec := "namesTells", unfollowed := true, recurses := true, named := ["lychway/expr.notations"], loops := true, apart := false, laid := [("lychway/expr.notations", laid_lychway_expr_notations)], narrowed := true }
def NamesTellsUptoSaid : Prop := namesTellsUptoRow.holds Tryd.pinned (OpenSpec.upto namesTellsSpec)

/-- 'lychwaylaw.NamesPuts', WHERE WHAT IT READS IS OF BULK AT MOST 1048576: true; the input reads as it did. -/
def namesPutsUptoRow : OpenClaim := { program := "ytlceojdnmoekcaadoor", sum := "528a9008ee770e0c1923a24d663950444c88220a8d994eefe8d977dc6dc45bc3", func := "lychway/lychwaylaw.NamesPuts", spec := "namesPuts", unfollowed := true, recurses := true, named := ["lychway/expr.notations"], loops := true, apart := false, laid := [("lychway/expr.notations", laid_lychway_expr_notations)], narrowed := true }
def NamesPutsUptoSaid : Prop := namesPutsUptoRow.holds Tryd.pinned (OpenSpec.upto namesPutsSpec)

/-- 'lychwaykeep.NamesPut', WHERE WHAT IT READS IS OF BULK AT MOST 1048576: true; the input reads as it did. -/
def namesPutUptoRow : OpenClaim := { program := "ytlceojdnmoekcaadoor", sum := "528a9008ee770e0c1923a24d663950444c88220a8d994eefe8d977dc6dc45bc3", func := "lychway/lychwaykeep.NamesPut", spec := "namesPut", unfollowed := true, recurses := true, named := ["lychway/expr.notations"], apart := false, laid := [("lychway/expr.notations", laid_lychway_expr_notations)], narrowed := true }
def NamesPutUptoSaid : Prop := namesPutUptoRow.holds Tryd.pinned (OpenSpec.upto namesPutSpec)

/-- 'lychwaykeep.NamesAll', WHERE WHAT IT READS IS OF BULK AT MOST 1048576: true; the input reads as it did. -/
def namesAllUptoRow : OpenClaim := { program := "ytlceojdnmoekcaadoor", sum := "528a9008ee770e0c1923a24d663950444c88220a8d994eefe8d977dc6dc45bc3", func := "lychway/lychwaykeep.NamesAll", spec := "namesAll", unfollowed := true, recurses := true, named := ["lychway/expr.notations"], apart := false, laid := [("lychway/expr.notations", laid_lychway_expr_notations)], narrowed := true }
def NamesAllUptoSaid : Prop := namesAllUptoRow.holds Tryd.pinned (OpenSpec.upto namesAllSpec)

end Rows
end Go.Proofs.YtlceojdnmoekcaaDoor
