/- THE SEARCH of an evening,checked. -/
import Derived.Test.YtfbongdjicmegaaDoorEzC
/-! THE SEARCH of an evening,checked. -/
namespace Go.Sx
open Go.RowKit Go.Proofs
set_option maxRecDepth 100000
theorem ckA_f30:ckAll false 3 0=true:=by kernel_rfl
theorem ckN_f3:ckN false 3=true:=by kernel_rfl
end Go.Sx
/-! THE SEARCH of an evening,checked. -/
namespace Go.Sx
open Go.RowKit Go.Proofs
set_option maxRecDepth 100000
theorem ckA_f31:ckAll false 3 1=true:=by kernel_rfl
end Go.Sx
