/-
  NARROWER THAN 'FOR EVERY INPUT', by the rows' own cells (each row's printed sentence says how): FormFacts: loops.
  DERIVED. THE GIVEN ROWS OF THIS SEAT. 2 by the template 'for every input the law returns true; each argument reads behind the call as it read before'; 0 by the template 'total and deterministic' (their statements: YtdlfhldboagbeaaTotals.lean).
  GIVEN WITH THE SEED: the statements are not yours to turn. If you find one false, say at which input.
  Laid BY PROGRAM, IN A SANDBOX (cutbox-rows.mjs): the forced cells as the released guide's own fill.sh prints them over the translation 9f4960d64abff172… (all of the seat's roots in one cut). By AI agents, Wed Nov 11 2026. No macro, syntax, notation, axiom, sorry.
-/
import Derived.Test.YtdlfhldboagbeaaChecked
import GoSem.Claim
import GoSem.ClaimJoined
import GoSem.ClaimMapViews
import Derived.JoinedTies
import Derived.KernelRfl
namespace Go.Proofs.Ytdlfhldboagbeaa
/- THE CELL 'sum', in the pinned program and in every row, IS THE sha256 OF THE DUMP (.gsa) THAT YtdlfhldboagbeaaProg.lean LOADS. Nothing in Lean hashes anything: it is a label: what it is worth is what the hold of that sum in a sandbox is worth. -/
noncomputable def Try.pinned : Pinned := { name := "ytdlfhldboagbeaa", sum := "9f4960d64abff172763e51a4b505ea19177f05b02e091b7c5c84b69d8e67b661", checked := Try.checked }
namespace Rows
def none {H : Type} : Left H := { results := [], args := [] }

/-- 'lychwaylaw.FormFacts': WHATEVER THE INPUT: true; the input reads as it did. -/
def formFactsSpec : ChangeSpec := { name := "formFacts", fn := fun _ => fun
  | [d1, d2] => { results := [.lit (.bool true)], args := [d1, d2] }
  | _ => none }
def formFactsRow : OpenClaim := { program := "ytdlfhldboagbeaa", sum := "9f4960d64abff172763e51a4b505ea19177f05b02e091b7c5c84b69d8e67b661", func := "lychway/lychwaylaw.FormFacts", spec := "formFacts", loops := true, apart := false }
def FormFactsSaid : Prop := formFactsRow.holds Try.pinned (OpenSpec.ofChange formFactsSpec)

/-- ITS FALSE NEIGHBOUR: 'it returns false'. Refute it at one input. -/
def formFactsWrong : ChangeSpec := { name := "formFacts", fn := fun _ => fun
  | [d1, d2] => { results := [.lit (.bool false)], args := [d1, d2] }
  | _ => none }
def FormFactsWrongFalsely : Prop := formFactsRow.holds Try.pinned (OpenSpec.ofChange formFactsWrong)

/-- 'lychwaykeep.FormOnce': WHATEVER THE INPUT: true; the input reads as it did. -/
def formOnceSpec : ChangeSpec := { name := "formOnce", fn := fun _ => fun
  | [d1, d2, d3] => { results := [.lit (.bool true)], args := [d1, d2, d3] }
  | _ => none }
def formOnceRow : OpenClaim := { program := "ytdlfhldboagbeaa", sum := "9f4960d64abff172763e51a4b505ea19177f05b02e091b7c5c84b69d8e67b661", func := "lychway/lychwaykeep.FormOnce", spec := "formOnce", unfollowed := true, recurses := true, apart := false }
def FormOnceSaid : Prop := formOnceRow.holds Try.pinned (OpenSpec.ofChange formOnceSpec)

/-- ITS FALSE NEIGHBOUR: 'it returns false'. Refute it at one input. -/
def formOnceWrong : ChangeSpec := { name := "formOnce", fn := fun _ => fun
  | [d1, d2, d3] => { results := [.lit (.bool false)], args := [d1, d2, d3] }
  | _ => none }
def FormOnceWrongFalsely : Prop := formOnceRow.holds Try.pinned (OpenSpec.ofChange formOnceWrong)

/- THE SECOND FORM. 'bulk': how many values and letters a reading holds, each counted each time it is reached (what is shared counts as often as it is met; a slice's spare places count too). A statement '..UptoSaid' is the law's where the arguments, and the package variables that the reading takes, are together of bulk at most 1048576: NARROWER than '..Said'. Prove '..Said' where nothing that the law and all that it calls make is longer than what came in: it says more and counts as full. Else prove '..UptoSaid'. A law counts once. -/
mutual
def uptoBulk {H : Type} : DataW H → Nat
  | .lit (.string bytes) => bytes.length + 1
  | .lit _ => 1
  | .nil => 1
  | .ptr d => uptoBulk d + 1
  | .slice elems spare => uptoBulkAll elems + uptoBulkAll spare + 1
  | .agg parts => uptoBulkAll parts + 1
  | .iface _ d => uptoBulk d + 1
  | .map entries => uptoBulkEntries entries + 1
  | .held _ => 1
def uptoBulkAll {H : Type} : List (DataW H) → Nat
  | [] => 0
  | d :: r => uptoBulk d + uptoBulkAll r
def uptoBulkEntries {H : Type} : List (Lit × DataW H) → Nat
  | [] => 0
  | x :: r => uptoBulkEntry x + uptoBulkEntries r
def uptoBulkEntry {H : Type} : Lit × DataW H → Nat
  | (.string bytes, d) => bytes.length + uptoBulk d + 1
  | (_, d) => uptoBulk d + 1
 end
def uptoSmall : (H : Type) → List (DataW H) → Bool := fun _ ds => decide (uptoBulkAll ds ≤ 1048576)
def OpenSpec.upto (s : _root_.Go.ChangeSpec) : _root_.Go.OpenSpec := { _root_.Go.OpenSpec.ofChange s with cond := some uptoSmall }

/-- 'lychwaylaw.FormFacts', WHERE WHAT IT READS IS OF BULK AT MOST 1048576: true; the input reads as it did. -/
def formFactsUptoRow : OpenClaim := { program := "ytdlfhldboagbeaa", sum := "9f4960d64abff172763e51a4b505ea19177f05b02e091b7c5c84b69d8e67b661", func := "lychway/lychwaylaw.FormFacts", spec := "formFacts", loops := true, apart := false, narrowed := true }
def FormFactsUptoSaid : Prop := formFactsUptoRow.holds Try.pinned (OpenSpec.upto formFactsSpec)

/-- 'lychwaykeep.FormOnce', WHERE WHAT IT READS IS OF BULK AT MOST 1048576: true; the input reads as it did. -/
def formOnceUptoRow : OpenClaim := { program := "ytdlfhldboagbeaa", sum := "9f4960d64abff172763e51a4b505ea19177f05b02e091b7c5c84b69d8e67b661", func := "lychway/lychwaykeep.FormOnce", spec := "formOnce", unfollowed := true, recurses := true, apart := false, narrowed := true }
def FormOnceUptoSaid : Prop := formOnceUptoRow.holds Try.pinned (OpenSpec.upto formOnceSpec)

end Rows
end Go.Proofs.Ytdlfhldboagbeaa
