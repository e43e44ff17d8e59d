/- EnKt20 -/
import Derived.Test.YtfbongdjicmegaaDoorEnS
namespace Go.Sx
open Go.RowKit Go.Proofs
set_option maxRecDepth 100000
theorem ckA_t10:gE true 1 0=true:=by kernel_rfl
theorem ckN_t1:ckN true 1=true:=by kernel_rfl
end Go.Sx
namespace Go.Sx
open Go.RowKit Go.Proofs
set_option maxRecDepth 100000
theorem ckA_t20:gE true 2 0=true:=by kernel_rfl
theorem ckN_t2:ckN true 2=true:=by kernel_rfl
end Go.Sx
