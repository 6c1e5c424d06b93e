/- The reference's TypeOf, TypeFits. -/
import Derived.Test.YtdndphagfohpnaaDoorTyRef
namespace Go.Proofs.YtdndphagfohpnaaDoor.TyRT
open Go.RowKit
open ExM Kit ExL GenL TyM Ty TyT TyO TyR ExN
set_option linter.unusedVariables false
attribute [local go_sem] Go.undef

end Go.Proofs.YtdndphagfohpnaaDoor.TyRT
