/- THE SEARCH of an evening,checked. -/
import Derived.Test.YtfbongdjicmegaaDoorEzC
/-! THE SEARCH of an evening,checked. -/
namespace Go.Sx
open Go.RowKit Go.Proofs
set_option maxRecDepth 100000
theorem ckA_t10:ckAll true 1 0=true:=by kernel_rfl
theorem ckN_t1:ckN true 1=true:=by kernel_rfl
end Go.Sx
/-! THE SEARCH of an evening,checked. -/
namespace Go.Sx
open Go.RowKit Go.Proofs
set_option maxRecDepth 100000
theorem ckA_t20:ckAll true 2 0=true:=by kernel_rfl
theorem ckN_t2:ckN true 2=true:=by kernel_rfl
end Go.Sx
