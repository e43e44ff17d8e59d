/- HaK -/
import Derived.Test.YtfbongdjicmegaaDoorHtA
namespace Go.Sx
open Go.RowKit Go.Proofs
set_option maxRecDepth 100000
theorem ckT4:bF ckT [1,2,3,4]=true:=by kernel_rfl
end Go.Sx
