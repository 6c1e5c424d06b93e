/- The reference's TypeOf, TypeFits. -/
import Derived.Test.YtdlfhldboagbeaaTyRef
namespace Go.Proofs.Ytdlfhldboagbeaa.TyRT
open Go.RowKit
open ExM Kit ExL GenL TyM Ty TyT TyO TyR ExN
set_option linter.unusedVariables false
attribute [local go_sem] Go.undef

end Go.Proofs.Ytdlfhldboagbeaa.TyRT
