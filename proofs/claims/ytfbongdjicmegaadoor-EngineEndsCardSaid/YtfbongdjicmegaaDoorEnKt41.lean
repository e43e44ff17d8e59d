/- EnKt41 -/
import Derived.Test.YtfbongdjicmegaaDoorEnS
namespace Go.Sx
open Go.RowKit Go.Proofs
set_option maxRecDepth 100000
theorem ckA_t40:gE true 4 0=true:=by kernel_rfl
theorem ckN_t4:ckN true 4=true:=by kernel_rfl
end Go.Sx
namespace Go.Sx
open Go.RowKit Go.Proofs
set_option maxRecDepth 100000
theorem ckA_t41:gE true 4 1=true:=by kernel_rfl
end Go.Sx
