/- EnKt30 -/
import Derived.Test.YtfbongdjicmegaaDoorEnS
namespace Go.Sx
open Go.RowKit Go.Proofs
set_option maxRecDepth 100000
theorem ckA_t21:gE true 2 1=true:=by kernel_rfl
end Go.Sx
namespace Go.Sx
open Go.RowKit Go.Proofs
set_option maxRecDepth 100000
theorem ckA_t30:gE true 3 0=true:=by kernel_rfl
theorem ckN_t3:ckN true 3=true:=by kernel_rfl
end Go.Sx
