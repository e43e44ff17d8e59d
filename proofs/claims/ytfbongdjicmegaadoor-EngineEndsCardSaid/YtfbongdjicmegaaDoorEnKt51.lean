/- EnKt51 -/
import Derived.Test.YtfbongdjicmegaaDoorEnS
namespace Go.Sx
open Go.RowKit Go.Proofs
set_option maxRecDepth 100000
theorem ckA_t50:gE true 5 0=true:=by kernel_rfl
theorem ckN_t5:ckN true 5=true:=by kernel_rfl
end Go.Sx
namespace Go.Sx
open Go.RowKit Go.Proofs
set_option maxRecDepth 100000
theorem ckA_t51:gE true 5 1=true:=by kernel_rfl
end Go.Sx
