/- HeK9 -/
import Derived.Test.YtfbongdjicmegaaDoorHeM
namespace Go.Sx
open Go.RowKit Go.Proofs
set_option maxRecDepth 100000
theorem lawE_9:bz lawEq tE9=true:=by kernel_rfl
end Go.Sx
