/- EnKt54 -/
import Derived.Test.YtfbongdjicmegaaDoorEnS
namespace Go.Sx
open Go.RowKit Go.Proofs
set_option maxRecDepth 100000
theorem ckA_t54:gE true 5 4=true:=by kernel_rfl
end Go.Sx
