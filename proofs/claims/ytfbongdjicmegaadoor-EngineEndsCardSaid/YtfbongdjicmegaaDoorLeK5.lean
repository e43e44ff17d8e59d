/- LeK5 -/
import Derived.Test.YtfbongdjicmegaaDoorHaE
namespace Go.Sx
open Go.RowKit Go.Proofs
set_option maxRecDepth 100000
theorem ckLe5:ckLes 5=true:=by kernel_rfl
end Go.Sx
