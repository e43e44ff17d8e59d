/- EnKt43 -/
import Derived.Test.YtfbongdjicmegaaDoorEnS
namespace Go.Sx
open Go.RowKit Go.Proofs
set_option maxRecDepth 100000
theorem ckA_t42:gE true 4 2=true:=by kernel_rfl
end Go.Sx
namespace Go.Sx
open Go.RowKit Go.Proofs
set_option maxRecDepth 100000
theorem ckA_t43:gE true 4 3=true:=by kernel_rfl
end Go.Sx
