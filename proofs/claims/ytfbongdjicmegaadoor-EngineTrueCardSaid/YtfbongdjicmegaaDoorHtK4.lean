/- HtK4 -/
import Derived.Test.YtfbongdjicmegaaDoorHtA
namespace Go.Sx
open Go.RowKit Go.Proofs
set_option maxRecDepth 100000
theorem lawT4:bF (lawTn 4) [0,1,2,3,4]=true:=by kernel_rfl
end Go.Sx
