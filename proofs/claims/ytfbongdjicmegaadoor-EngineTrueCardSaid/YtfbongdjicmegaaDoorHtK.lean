/- HtK -/
import Derived.Test.YtfbongdjicmegaaDoorHtA
namespace Go.Sx
open Go.RowKit Go.Proofs
set_option maxRecDepth 100000
theorem lawT3:bF (fun L=>bF (lawTn L) (cntD (L + 1))) [1,2,3]=true:=by kernel_rfl
end Go.Sx
