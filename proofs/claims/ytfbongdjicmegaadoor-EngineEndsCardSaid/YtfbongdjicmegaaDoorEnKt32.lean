/- EnKt32 -/
import Derived.Test.YtfbongdjicmegaaDoorEnS
namespace Go.Sx
open Go.RowKit Go.Proofs
set_option maxRecDepth 100000
theorem ckA_t31:gE true 3 1=true:=by kernel_rfl
end Go.Sx
namespace Go.Sx
open Go.RowKit Go.Proofs
set_option maxRecDepth 100000
theorem ckA_t32:gE true 3 2=true:=by kernel_rfl
end Go.Sx
