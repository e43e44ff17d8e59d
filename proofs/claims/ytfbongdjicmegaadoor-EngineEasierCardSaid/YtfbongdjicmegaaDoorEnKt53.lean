/- THE SEARCH of an evening,checked. -/
import Derived.Test.YtfbongdjicmegaaDoorEzC
/-! THE SEARCH of an evening,checked. -/
namespace Go.Sx
open Go.RowKit Go.Proofs
set_option maxRecDepth 100000
theorem ckA_t52:ckAll true 5 2=true:=by kernel_rfl
end Go.Sx
/-! THE SEARCH of an evening,checked. -/
namespace Go.Sx
open Go.RowKit Go.Proofs
set_option maxRecDepth 100000
theorem ckA_t53:ckAll true 5 3=true:=by kernel_rfl
end Go.Sx
