/- THE SEARCH of an evening,checked. -/
import Derived.Test.YtfbongdjicmegaaDoorEzC
/-! THE SEARCH of an evening,checked. -/
namespace Go.Sx
open Go.RowKit Go.Proofs
set_option maxRecDepth 100000
theorem ckA_t42:ckAll true 4 2=true:=by kernel_rfl
end Go.Sx
/-! THE SEARCH of an evening,checked. -/
namespace Go.Sx
open Go.RowKit Go.Proofs
set_option maxRecDepth 100000
theorem ckA_t43:ckAll true 4 3=true:=by kernel_rfl
end Go.Sx
