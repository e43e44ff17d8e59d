/- EnKt54 -/
import Derived.Test.YtfbongdjicmegaaDoorEzC
namespace Go.Sx
open Go.RowKit Go.Proofs
set_option maxRecDepth 100000
theorem ckA_t54:gA true 5 4=true:=by kernel_rfl
end Go.Sx
