/- EnKt32 -/
import Derived.Test.YtfbongdjicmegaaDoorEzC
namespace Go.Sx
open Go.RowKit Go.Proofs
set_option maxRecDepth 100000
theorem ckA_t31:gA true 3 1=true:=by kernel_rfl
end Go.Sx
namespace Go.Sx
open Go.RowKit Go.Proofs
set_option maxRecDepth 100000
theorem ckA_t32:gA true 3 2=true:=by kernel_rfl
end Go.Sx
