/- HtK50 -/
import Derived.Test.YtfbongdjicmegaaDoorHtA
namespace Go.Sx
open Go.RowKit Go.Proofs
set_option maxRecDepth 100000
theorem lawT50:lawTn 5 0=true:=by kernel_rfl
end Go.Sx
