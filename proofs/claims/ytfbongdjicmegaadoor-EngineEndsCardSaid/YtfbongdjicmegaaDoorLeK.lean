/- LeK -/
import Derived.Test.YtfbongdjicmegaaDoorHaE
namespace Go.Sx
open Go.RowKit Go.Proofs
set_option maxRecDepth 100000
theorem ckLe3:bz ckLes [1,2,3]=true:=by kernel_rfl
theorem ckLe4:ckLes 4=true:=by kernel_rfl
end Go.Sx
