/- The reference's TypeOf, TypeFits. -/
import Derived.Test.YthgcmficmodhiaaTyRef
namespace Go.Proofs.Ythgcmficmodhiaa.TyRT
open Go.RowKit
open ExM Kit ExL GenL TyM Ty TyT TyO TyR ExN
set_option linter.unusedVariables false
attribute [local go_sem] Go.undef

end Go.Proofs.Ythgcmficmodhiaa.TyRT
